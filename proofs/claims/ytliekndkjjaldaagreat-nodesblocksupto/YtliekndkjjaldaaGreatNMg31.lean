/- Texts of this seat, merged. -/
import Derived.Test.YtliekndkjjaldaaGreatNMg30
import Derived.Test.YtliekndkjjaldaaGreatNMg15
import Derived.BigQuiet

/- What Rename does to any system. -/
namespace Go.Proofs.YtliekndkjjaldaaGreat
open Go.RowKit Go.ChangeMaps Go.MapKept
set_option linter.unusedVariables false
set_option maxRecDepth 20000


set_option maxHeartbeats 8000000 in
theorem pren_main (p : Nat) (F : Fs) (G : Nat → Prop) (w : World) (H : Pf w p F G) (hF : FOk F) (t t2 : ByteArray) (hs : t.size ≤ 140737488355328) (hs2 : t2.size ≤ 140737488355328) (y : List Nat) (s : List UInt8) (i : Nat) (hw : F.walk (bl t) = .ok (y, s, i)) (hi0 : i ≠ 0) (y2 : List Nat) (s2 : List UInt8) (m : Nat) (hw2 : F.walk (bl t2) = .ok (y2, s2, m)) (hmi : m ≠ i) (hE : F.mayR y i y2 m = 0) (hlm : ∀ i, (F.P i).l ≤ 1000000) (X : Fs) (hX : X = if m ≠ 0 ∧ dfc F.d 4 = false then (((F.deln (Fs.dirOf y) s).deln (Fs.dirOf y2) s2).addn (Fs.dirOf y2) s2 i).less m else ((F.deln (Fs.dirOf y) s).deln (Fs.dirOf y2) s2).addn (Fs.dirOf y2) s2 i) :
    Calls Tryz.prog 29 #[.pointer (some ⟨p, 0, none⟩), .string t, .string t2] w fun e w' => e = .returned (.int .i64 0) ∧ PfTo w p X G w' := by
  have HW2 := hid (hF.walk_ok hw2)
  have HY2 := hid (hF.walk_ok hw2).last
  have hm17 : m < 17 := by
    by_cases h0 : m = 0
    · omega
    · exact ((hF.walk_ok hw2).to h0).2.1
  have HE := hid hw2
  clear hw2
  have HPf := H
  obtain ⟨S, HS0, R, hG⟩ := H
  have W := hF.walk_ok hw
  obtain ⟨i1, hi17, hik⟩ := W.to hi0
  have k0 := hid HS0.usable
  have k1 := hid (tonode_any p S t w HS0 (R.tree hF) hs)
  rw [toNode_fs HS0 R, hw, show toNode (.ok (y, s, i)) = .ok (y, s, i) from if_neg hi0] at k1
  have HS := hid HS0
  have HY := hid W.last
  have HR := hid R
  have HG := hid hG
  have HW := hid W
  have HF := hid hF
  have HPP := hid HPf
  have hii0 : (0 : Int) ≤ (i : Int) := by omega
  have hii1 : (i : Int) < 17 := by omega
  clear HS0 HPf R hG W hF hw
  have HXX := hid hX
  have HE0 := hid hE
  have hmi2 : ((m : Int) == (i : Int)) = false := by simp; omega
  have hmi3 : ¬ (m : Int) = (i : Int) := by omega
  have hlmm := hlm m
  clear hX hlm
  go_enter Tryz.func29, Tryz.ntmps29
  go_wp2_with fail
  refine k0.out.mono ?_
  rintro e w1 ⟨rfl, rfl⟩
  clear k0
  go_wp2_with fail
  refine k1.out.mono ?_
  rintro e w2 ⟨v, rfl, hb2, hv⟩
  have HB2 := hid hb2
  clear k1 hb2
  obtain ⟨u, rfl, yv, nm, rfl, hnm, hown⟩ := hv
  obtain ⟨gy, cy, rfl, hy0, hgy, hcy, hyc, hcm⟩ := last_own hown HY.out
  obtain ⟨hP3, hW3⟩ := box_plc w2 gy y.length cy nm i y _ hown rfl hy0
  have HNM := hid hnm
  obtain ⟨W3, g3⟩ : ∃ W3, W3 = w2.alloc (Obj.cells #[.slice (some ⟨gy, 0, none⟩) y.length cy, .string nm, .int .i64 (i : Int)] 91) := ⟨_, rfl⟩
  rw [← g3] at hP3 hW3
  have hB3 : Below w1.heap.size w1 W3 := by rw [g3]; exact HB2.out.trans ((one_new w2 _).mono HB2.out.size)
  have hZ3 : w2.heap.size < W3.heap.size := by rw [g3]; simp
  obtain ⟨P1, gP1⟩ : ∃ P1, P1 = w2.heap.size := ⟨_, rfl⟩
  rw [← gP1] at hP3 hZ3
  obtain ⟨a0, a1, a2, _, _, _⟩ := plc_cells hP3
  have HW3 := hid hW3
  have HP3 := hid hP3
  have HB3 := hid hB3
  have HZ3 := hid hZ3
  have k2 := hid (walk_fs p S F t2 W3 (HS.out.grow hB3) HR.out HF.out hs2)
  clear hown hcy hnm hgy hP3 hB3 hZ3 hW3 hyc hcm
  go_wp2_with fail
  rw [← gP1, ← g3]
  have GP1 := hid gP1
  clear g3 gP1
  refine k2.out.mono ?_
  rintro e w4 ⟨v, rfl, hb4, hv⟩
  rw [HE.out] at hv
  have HB4 := hid (HB3.out.trans (hb4.mono HB3.out.size))
  have hP4 := (hb4.block _ HZ3.out).trans HP3.out
  have HZ4 : Hid (P1 < w4.heap.size) := hid (Nat.lt_of_lt_of_le HZ3.out hb4.size)
  have HW4 := hid (HW3.out.grow hb4)
  clear k2 hb4 a0 a1 a2 HP3 HW3 HZ3
  obtain ⟨u, rfl, yv2, nm2, rfl, hnm2, hown2⟩ := hv
  obtain ⟨gz, cz, rfl, hz0, hgz, hcz, hzc, hzm⟩ := last_own hown2 HY2.out
  obtain ⟨hP5, hW5⟩ := box_plc w4 gz y2.length cz nm2 m y2 _ hown2 rfl hz0
  have HNM2 := hid hnm2
  obtain ⟨W5, g5⟩ : ∃ W5, W5 = w4.alloc (Obj.cells #[.slice (some ⟨gz, 0, none⟩) y2.length cz, .string nm2, .int .i64 (m : Int)] 91) := ⟨_, rfl⟩
  have hb5 : Below w4.heap.size w4 W5 := by rw [g5]; exact one_new w4 _
  have hZ5 : w4.heap.size < W5.heap.size := by rw [g5]; simp
  rw [← g5] at hP5 hW5
  obtain ⟨P2, gP2⟩ : ∃ P2, P2 = w4.heap.size := ⟨_, rfl⟩
  rw [← gP2] at hP5 hZ5
  have hP6 := (hb5.block _ HZ4.out).trans hP4
  have HGZ : Hid (w1.heap.size ≤ gz) := hid (by have := (hown2.lt gz rfl).1; have := HB3.out.size; omega)
  have HNP : Hid (P1 ≠ P2) := hid (by have := HZ4.out; omega)
  have HB5 := hid (HB4.out.trans (hb5.mono HB4.out.size))
  have HZ5 : Hid (P2 < W5.heap.size ∧ P1 < W5.heap.size) := hid ⟨hZ5, by have := HZ4.out; omega⟩
  have HV1 := hid (HW4.out.grow hb5)
  have HV2 := hid hW5
  have HP5 := hid hP5
  have HP6 := hid hP6
  obtain ⟨a0, a1, a2, _, _, _⟩ := plc_cells hP6
  obtain ⟨b0, b1, b2, _, _, _⟩ := plc_cells hP5
  have HS5 := hid (HS.out.grow HB5.out)
  obtain ⟨c0, c1, c2, _, _, _⟩ := plc_cells hP4
  have hz4 := HZ4.out
  have hz5 : P1 ≠ w4.heap.size := by omega
  clear hown2 hcz hnm2 hgz hP5 hZ5 hW5 hP4 hP6 hb5 hzc hzm
  go_wp2_with fail
  rw [← gP2, ← g5]
  clear c0 c1 c2 hz4 hz5
  have GP2 := hid gP2
  clear g5 gP2
  have km := hid (mayren_any p S F W5 HS5.out HR.out HF.out gy y.length cy y nm i gz y2.length cz y2 nm2 m HV1.out HV2.out hi17 hm17 HW2.out.lt.2)
  rw [HE0.out] at km
  go_wp2_with fail
  refine km.out.mono ?_
  rintro e w6 ⟨rfl, hb6⟩
  have HB6 := hid (HB5.out.trans (hb6.mono HB5.out.size))
  have hq1 := (hb6.block _ HZ5.out.2).trans HP6.out
  have hq2 := (hb6.block _ HZ5.out.1).trans HP5.out
  have HZ6 : Hid (P2 < w6.heap.size ∧ P1 < w6.heap.size) := hid ⟨Nat.lt_of_lt_of_le HZ5.out.1 hb6.size, Nat.lt_of_lt_of_le HZ5.out.2 hb6.size⟩
  have HV3 := hid (HV1.out.grow hb6)
  have HV4 := hid (HV2.out.grow hb6)
  have HS6 := hid (HS.out.grow HB6.out)
  clear a0 a1 a2 b0 b1 b2 km hb6 HP5 HP6 HS5 HV1 HV2
  obtain ⟨a0, a1, a2, _, _, _⟩ := plc_cells hq1
  obtain ⟨b0, b1, b2, _, _, _⟩ := plc_cells hq2
  obtain ⟨hd17, hdk, hnd⟩ := HW.out.sg HR.out
  obtain ⟨he17, hek, hne⟩ := HW2.out.sg HR.out
  have hnmz : nm.size ≤ 6 := by have := bl_len nm; rw [HNM.out] at this; have := HW.out.len; omega
  have hnmz2 : nm2.size ≤ 6 := by have := bl_len nm2; rw [HNM2.out] at this; have := HW2.out.len; omega
  have k3 := hid (tkname_any p S w6 HS6.out gy y.length cy (Fs.dirOf y) nm (i : Int) HV3.out.pos HV3.out.last HV3.out.lt HV3.out.cap HV3.out.max hd17 hdk (by rw [HNM.out, ← hnd]; exact hi0) (by omega))
  have HQ6 := hid (And.intro hq1 hq2)
  have HEK := hid (And.intro he17 hek)
  clear hq1 hq2 hnd hne hdk hek
  go_wp2_with fail
  refine k3.out.mono ?_
  rintro e w7 ⟨rfl, h7, u7⟩
  have hR7 : Rel (S.drop (Fs.dirOf y) (bl nm)) (F.deln (Fs.dirOf y) s) := by
    rw [HNM.out]
    exact HR.out.drop HF.out _ _ (by rw [← HW.out.nn]; exact hi0)
  have hF7 : FOk (F.deln (Fs.dirOf y) s) := HF.out.deln _ _ HW.out.k
  have hno : ∀ dd, dd < 17 → ∀ x, w1.heap.size ≤ x → ¬ (S.P dd).m = some x := fun dd hdd x hx e => by
    have := HS.out.foot_lt x (.inr ⟨dd, hdd, e⟩)
    omega
  have hP1w : w1.heap.size ≤ P1 := by have := HB2.out.size; have := GP1.out; omega
  have hP2w : w1.heap.size ≤ P2 := by have := HZ4.out; have := GP2.out; omega
  have hq1 := (u7.block P1 HZ6.out.2 (hno _ hd17 P1 hP1w)).trans HQ6.out.1
  have hq2 := (u7.block P2 HZ6.out.1 (hno _ hd17 P2 hP2w)).trans HQ6.out.2
  clear a0 a1 a2 b0 b1 b2 k3
  obtain ⟨a0, a1, a2, _, _, _⟩ := plc_cells hq1
  obtain ⟨b0, b1, b2, _, _, _⟩ := plc_cells hq2
  have hF3 := (HF.out.moved HW.out HW2.out hi0 hmi (mayR_zero HE0.out).2.1 (mayR_zero HE0.out).2.2)
  obtain ⟨F3, gF3⟩ : ∃ F3, F3 = ((F.deln (Fs.dirOf y) s).deln (Fs.dirOf y2) s2).addn (Fs.dirOf y2) s2 i := ⟨_, rfl⟩
  rw [← gF3] at hF3
  have hlast7 : w7.cell? ⟨gz, y2.length - 1, none⟩ = some (.int .i64 ((Fs.dirOf y2 : Nat) : Int)) :=
    (World.cell?_of_block (a := ⟨gz, y2.length - 1, none⟩) (u7.block gz HV4.out.lt (hno _ hd17 gz HGZ.out))).trans HV4.out.last
  have hgz7 : gz < w7.heap.size := Nat.lt_of_lt_of_le HV4.out.lt u7.size
  have h4 : ∃ S2, Hid (Calls Tryz.prog 59 #[.pointer (some ⟨p, 0, none⟩), .agg #[.slice (some ⟨gz, 0, none⟩) y2.length cz, .string nm2, .int .i64 (m : Int)], .int .i64 (i : Int)] w7 fun e w' => e = .returned (.tuple #[]) ∧ Sy w' p S2 ∧ Upd (fun x => (S.P (Fs.dirOf y2)).m = some x) w7 w') ∧ Rel S2 F3 ∧ (∀ x, S2.foot p x → S.foot p x) := by
    by_cases hz : lk ((F.deln (Fs.dirOf y) s).P (Fs.dirOf y2)).Q s2 = 0
    · have e0 : (F.deln (Fs.dirOf y) s).deln (Fs.dirOf y2) s2 = F.deln (Fs.dirOf y) s := deln_none hF7 _ _ hz
      have hlen : ((F.deln (Fs.dirOf y) s).P (Fs.dirOf y2)).Q.length < 6 := by
        have := hF3.1.len (Fs.dirOf y2)
        rw [gF3, e0, Fs.addn_P] at this
        dsimp only at this
        rw [if_pos rfl, len_ins] at this
        omega
      refine ⟨(S.drop (Fs.dirOf y) (bl nm)).put (Fs.dirOf y2) (bl nm2) i, hid (give_any p _ w7 h7 gz y2.length cz (Fs.dirOf y2) nm2 (m : Int) i HV4.out.pos hlast7 hgz7 HV4.out.cap HV4.out.max he17 HEK.out.2 (by rw [hR7.N _ he17, HNM2.out]; exact hz) (by rw [hR7.L _ he17]; exact hlen) hi17 hi0 (by omega)), ?_, fun x hx => hx⟩
      rw [gF3, e0, HNM2.out]
      exact hR7.put hF7 _ _ _ hz
    · refine ⟨(S.drop (Fs.dirOf y) (bl nm)).rep (Fs.dirOf y2) (bl nm2) i, hid (give_over p _ w7 h7 gz y2.length cz (Fs.dirOf y2) nm2 (m : Int) i HV4.out.pos hlast7 hgz7 HV4.out.cap HV4.out.max he17 HEK.out.2 (by rw [hR7.N _ he17, HNM2.out]; exact hz) hi17 hi0 (by omega)), ?_, fun x hx => hx⟩
      rw [gF3, HNM2.out]
      exact hR7.rep hF7 _ _ _ hz
  obtain ⟨S2, k4, hR8, hf8⟩ := h4
  have HQ7 := hid (And.intro hq1 hq2)
  have HZ7 : Hid (P2 < w7.heap.size ∧ P1 < w7.heap.size) := hid ⟨Nat.lt_of_lt_of_le HZ6.out.1 u7.size, Nat.lt_of_lt_of_le HZ6.out.2 u7.size⟩
  have HU7 : Hid (Upd (S.foot p) w1 w7) := hid ((Upd.of_below HB6.out).trans u7 (fun x _ hx => .inr ⟨_, hd17, hx⟩))
  have HNO := hid hno
  have HR8 := hid hR8
  have HF3 := hid hF3
  have GF3 := hid gF3
  clear hq1 hq2 hlast7 hgz7 hR7 hF7 h7 u7 hno hR8 hF3 gF3
  go_wp2_with fail
  refine k4.out.mono ?_
  rintro e w8 ⟨rfl, h8, u8⟩
  have hq1 := (u8.block P1 HZ7.out.2 (HNO.out _ he17 P1 hP1w)).trans HQ7.out.1
  have hq2 := (u8.block P2 HZ7.out.1 (HNO.out _ he17 P2 hP2w)).trans HQ7.out.2
  clear a0 a1 a2 b0 b1 b2 k4
  obtain ⟨a0, a1, a2, _, _, _⟩ := plc_cells hq1
  obtain ⟨b0, b1, b2, _, _, _⟩ := plc_cells hq2
  have HU8 : Hid (Upd (S.foot p) w1 w8) := hid (HU7.out.trans u8 (fun x _ hx => .inr ⟨_, he17, hx⟩))
  have k5 := hid (has_any p S2 w8 h8 4)
  rw [HR8.out.d, show F3.d = F.d by rw [GF3.out]; rfl] at k5
  have H8 := hid h8
  clear u8 hq1 hq2 hP1w hP2w
  by_cases hm0 : m = 0
  · have HX : Hid (X = F3) := by rw [HXX.out, if_neg (fun q => q.1 hm0), GF3.out]; exact hid rfl
    subst hm0
    clear k5 h8
    change w8.cell? ⟨P2, 2, none⟩ = some (.int .i64 0) at b2
    go_wp2_with fail
    go_ret
    rw [HX.out]
    exact ⟨rfl, Into.to ⟨S2, H8.out, HR8.out, hf8, HU8.out⟩ HG.out⟩
  · have hm1 : ¬ (m : Int) = 0 := by omega
    have hm2 : ((m : Int) == 0) = false := by simpa using hm0
    have hm3 : ((m : Int) != 0) = true := by simpa using hm0
    obtain ⟨q1, q2⟩ := HF.out.over_ok ((mayR_zero HE0.out).1 hm0)
    obtain ⟨t1, t17, tk⟩ := HW2.out.to hm0
    have eP : F3.P m = { F.P m with Q := (F3.P m).Q } := by rw [GF3.out]; exact moved_P _ _ _ _ _ _
    have eQ : (F3.P m).Q = [] := by rw [GF3.out]; exact moved_Q HW2.out hm0 q1
    have hl0 := HF.out.l0 m
    have k6 := hid (ptklink p S2 F3 w8 h8 HR8.out m t17 hm0 (by omega) (by rw [eP]; exact ⟨hl0, hlmm⟩) (by rw [eP]; exact (HF.out.stl m).c) (by rw [eP]; exact (HF.out.stl m).B) (by rw [eP]; exact (HF.out.stl m).T) (fun _ => eQ))
    clear q1 q2 t1 tk eP eQ hl0 h8
    cases hdf : dfc F.d 4 with
    | true =>
      rw [hdf] at k5
      have HX : Hid (X = F3) := by rw [HXX.out, if_neg (by rw [hdf]; simp), GF3.out]; exact hid rfl
      clear k6 hdf
      go_wp2_with fail
      refine k5.out.mono ?_
      rintro e w9 ⟨rfl, rfl⟩
      clear k5
      go_wp2_with fail
      go_ret
      rw [HX.out]
      exact ⟨rfl, Into.to ⟨S2, H8.out, HR8.out, hf8, HU8.out⟩ HG.out⟩
    | false =>
      rw [hdf] at k5
      have HX : Hid (X = F3.less m) := by rw [HXX.out, if_pos ⟨hm0, hdf⟩, GF3.out]; exact hid rfl
      clear hdf
      go_wp2_with fail
      refine k5.out.mono ?_
      rintro e w9 ⟨rfl, rfl⟩
      clear k5
      go_wp2_with fail
      refine k6.out.mono ?_
      rintro e w10 ⟨rfl, h10⟩
      have H10 := hid h10
      clear k6 h10
      go_wp2_with fail
      go_ret
      rw [HX.out]
      exact ⟨rfl, Into.to (Into.trans hf8 HU8.out H10.out) HG.out⟩

theorem prename (p : Nat) (F : Fs) (G : Nat → Prop) (w : World) (H : Pf w p F G) (hF : FOk F) (t t2 : ByteArray) (hs : t.size ≤ 140737488355328) (hs2 : t2.size ≤ 140737488355328) (hlm : ∀ i, (F.P i).l ≤ 1000000) :
    Calls Tryz.prog 29 #[.pointer (some ⟨p, 0, none⟩), .string t, .string t2] w fun e w' => e = .returned (.int .i64 (F.rename (bl t) (bl t2)).2) ∧ PfTo w p (F.rename (bl t) (bl t2)).1 G w' := by
  have er := rename_eq F (bl t) (bl t2)
  cases he : toNode (F.walk (bl t)) with
  | error a =>
    rw [he] at er
    rw [er]
    exact pren_err p F G w H hF t t2 hs hs2 a he
  | ok q =>
    obtain ⟨y, s, i⟩ := q
    rw [he] at er
    obtain ⟨hw, hi0⟩ := toNode_ok he
    cases hw2 : F.walk (bl t2) with
    | error a =>
      rw [hw2] at er
      rw [er]
      exact pren_err2 p F G w H hF t t2 hs hs2 y s i hw hi0 a hw2
    | ok q =>
      obtain ⟨y2, s2, m⟩ := q
      rw [hw2] at er
      rw [er]
      dsimp only [Fs.ren]
      by_cases hmi : m = i
      · rw [if_pos hmi]
        exact pren_same p F G w H hF t t2 hs hs2 y s i hw hi0 y2 s2 m hw2 hmi
      rw [if_neg hmi]
      by_cases hE : F.mayR y i y2 m ≠ 0
      · rw [if_pos hE]
        exact pren_may p F G w H hF t t2 hs hs2 y s i hw hi0 y2 s2 m hw2 hmi hE
      rw [if_neg hE]
      have := pren_main p F G w H hF t t2 hs hs2 y s i hw hi0 y2 s2 m hw2 hmi (Decidable.not_not.1 hE) hlm _ rfl
      by_cases hc : m ≠ 0 ∧ dfc F.d 4 = false
      · rw [if_pos hc] at this ⊢; exact this
      · rw [if_neg hc] at this ⊢; exact this

end Go.Proofs.YtliekndkjjaldaaGreat

/- The document's within. -/
namespace Go.Proofs.YtliekndkjjaldaaGreat
open Go.RowKit
set_option linter.unusedVariables false
set_option maxRecDepth 20000

theorem Rch.front {F : Fs} {a c : Nat} (r : Rch F a c) : c = a ∨ ∃ x ∈ (F.P a).Q, Rch F x.2 c := by
  induction r with
  | refl => exact .inl rfl
  | step x _ hx e ih =>
    rcases ih with rfl | ⟨y, hy, hr⟩
    · exact .inr ⟨x, hx, by rw [e]; exact .refl _⟩
    · exact .inr ⟨y, hy, .step x hr hx e⟩

/-- Whether a directory lies within another one. -/
noncomputable def inB (F : Fs) (dir top : Nat) : Bool := @decide (Rch F top dir) (Classical.propDecidable _)
theorem inB_yes {F : Fs} {dir top : Nat} (h : Rch F top dir) : inB F dir top = true := by unfold inB; exact @decide_eq_true _ (Classical.propDecidable _) h
theorem inB_no {F : Fs} {dir top : Nat} (h : ¬ Rch F top dir) : inB F dir top = false := by unfold inB; exact @decide_eq_false _ (Classical.propDecidable _) h
theorem inB_leaf {F : Fs} (hF : FOk F) {dir top : Nat} (hd : (F.P dir).k = 2) (ht : (F.P top).k ≠ 2) : inB F dir top = false := inB_no (fun r => by
  have := r.leaf (hF.file top ht)
  rw [this] at hd
  exact ht hd)


set_option maxHeartbeats 4000000 in
theorem rwithin_upto (x g u : Nat) (V : Nat → Value) (F : Fs) (hF : FOk F) (rk : Nat → Nat) (hrk : ∀ i y, y ∈ (F.P i).Q → rk y.2 < rk i) (dir : Nat) (hd17 : dir < 17) (hd : (F.P dir).k = 2) : ∀ r top, rk top < r → top < 17 → ∀ (w : World) (H : Rf w x g u V F),
    Calls Tryz.prog 75 #[.pointer (some ⟨x, 0, none⟩), .int .i64 (dir : Int), .int .i64 (top : Int)] w fun e w' => e = .returned (.bool (inB F dir top)) ∧ Below w.heap.size w w' := by
  intro r
  induction r with
  | zero => intro top h; omega
  | succ r IH =>
    intro top hr ht w H
    by_cases e : dir = top
    · have i1 : ((dir : Int) == (top : Int)) = true := by simp [e]
      have hR := inB_yes (F := F) (dir := dir) (top := top) (by rw [e]; exact .refl _)
      rw [hR]
      clear IH H hr hrk hF hd hR e
      go_enter Tryz.func75, Tryz.ntmps75
      go_wp2_with fail
      go_ret
      exact ⟨rfl, Below.refl _ _⟩
    · have i1 : ((dir : Int) == (top : Int)) = false := by simp; omega
      have c0 := H.c0
      have c1 := H.q top ht
      have n0 : (0 : Int) ≤ (top : Int) := by omega
      have n1 : (top : Int) < 17 := by omega
      obtain ⟨Q, gQ⟩ : ∃ Q, Q = (F.P top).Q := ⟨_, rfl⟩
      have hQ := H.rQ top ht
      have hl6 := hF.len top
      rw [← gQ] at hQ hl6
      obtain ⟨a, c, eV, hnc, hcm, hcell⟩ := own_shp hQ
      rw [eV] at c1
      obtain ⟨L, gL⟩ : ∃ L, L = Q.length := ⟨_, rfl⟩
      rw [← gL] at c1 hcell hnc hl6
      have GL := hid gL
      have HC := hid hcell
      have HR := hid H
      have HLT := hid H.lts
      have HIH : Hid (∀ k, ∀ h : k < Q.length, Q[k].2 < 17 ∧ (∀ (w : World), Rf w x g u V F → Calls Tryz.prog 75 #[.pointer (some ⟨x, 0, none⟩), .int .i64 (dir : Int), .int .i64 (Q[k].2 : Int)] w fun e w' => e = .returned (.bool (inB F dir Q[k].2)) ∧ Below w.heap.size w w')) := hid (fun k h => by
        have hm : Q[k] ∈ (F.P top).Q := by rw [← gQ]; exact List.getElem_mem h
        have h17 := (hF.nm top _ hm).2.1
        exact ⟨h17, fun w HW => IH _ (by have := hrk top _ hm; omega) h17 w HW⟩)
      obtain ⟨R, gR⟩ : ∃ R, R = inB F dir top := ⟨_, rfl⟩
      have HRy : Hid (∀ k, ∀ h : k < Q.length, inB F dir Q[k].2 = true → R = true) := hid (fun k h hh => by
        rw [gR]
        by_cases q : Rch F Q[k].2 dir
        · exact inB_yes (Rch.head Q[k] (by rw [← gQ]; exact List.getElem_mem h) rfl q)
        · rw [inB_no q] at hh; simp at hh)
      have HRn : Hid ((∀ k, ∀ h : k < Q.length, inB F dir Q[k].2 = false) → R = false) := hid (fun hh => by
        rw [gR]
        refine inB_no (fun q => ?_)
        rcases q.front with h | ⟨y, hy, hr⟩
        · exact e h
        · rw [← gQ] at hy
          obtain ⟨k, hk, rfl⟩ := List.mem_iff_getElem.1 hy
          have := hh k hk
          rw [inB_yes hr] at this; simp at this)
      have HK : Hid (∀ i, (F.P i).k ≠ 2 → inB F dir i = false) := hid (fun i hi => inB_leaf hF hd hi)
      rw [← gR]
      clear IH H gQ hQ hcell gL gR eV hr hrk hF hd e
      go_enter Tryz.func75, Tryz.ntmps75
      go_wp2_with fail
      go_loopw [21] (fun v21 wr => ∃ j : Nat, j ≤ L ∧ v21 = .int .i64 (j : Int) ∧ Hid (Below w.heap.size w wr) ∧ Hid (∀ k, ∀ h : k < Q.length, k < j → inB F dir Q[k].2 = false)) (fun v21 _ => L - (intOf v21).toNat)
      case atStart => exact ⟨0, Nat.zero_le _, rfl, hid (Below.refl _ _), hid (fun k h hk => by omega)⟩
      case round =>
        obtain ⟨j, hj, rfl, HB, HN⟩ := hrel
        by_cases e : j < L
        · have hj2 : (j : Int) < (L : Int) := by omega
          have hj0 : (0 : Int) ≤ (j : Int) := by omega
          have hjQ : j < Q.length := by rw [← GL.out]; exact e
          obtain ⟨q, rfl, _, hqs, hcc⟩ := HC.out (by omega)
          obtain ⟨y1, y2⟩ := nmC_at Q j hjQ
          have d1 := (HB.out.cell (p := ⟨q, j * 2, none⟩) hqs).trans (hcc _ _ y1)
          have d2 := (HB.out.cell (p := ⟨q, j * 2 + 1, none⟩) hqs).trans (hcc _ _ y2)
          obtain ⟨h17, hcall⟩ := HIH.out j hjQ
          have HRF := hid (HR.out.grow HB.out)
          have HBs := hid HB.out.size
          have HS : Hid (inB F dir Q[j].2 = false → ∀ k, ∀ h : k < Q.length, k < j + 1 → inB F dir Q[k].2 = false) := hid (fun h k hk hkj => by
            by_cases e : k = j
            · subst e; exact h
            · exact HN.out k hk (by omega))
          have HY := hid (HRy.out j hjQ)
          have HKj := hid (HK.out Q[j].2)
          generalize bs Q[j].1 = sj at d1
          obtain ⟨m, gm⟩ : ∃ m, m = Q[j].2 := ⟨_, rfl⟩
          rw [← gm] at d2 h17 hcall HS HY HKj
          have dk := HRF.out.k m h17
          have c0' := HRF.out.c0
          have m0 : (0 : Int) ≤ (m : Int) := by omega
          have m1 : (m : Int) < 17 := by omega
          have HCL := hid hcall
          have xl := HLT.out.1
          have gl := HLT.out.2.1
          have xs : x < wr.heap.size := Nat.lt_of_lt_of_le xl HBs.out
          have gs : g < wr.heap.size := Nat.lt_of_lt_of_le gl HBs.out
          have xs1 : x < wr.heap.size + 1 := by omega
          have gs1 : g < wr.heap.size + 1 := by omega
          clear gm hcc y1 y2 hcall c0 c1 xl gl
          by_cases hk : (F.P m).k = 2
          · have g1 : ((F.P m).k == 2) = true := by simp [hk]
            obtain ⟨b, gb⟩ : ∃ b, b = inB F dir m := ⟨_, rfl⟩
            rw [← gb] at HS HY
            have HC2 : Hid (∀ W, Rf W x g u V F → Calls Tryz.prog 75 #[.pointer (some ⟨x, 0, none⟩), .int .i64 (dir : Int), .int .i64 (m : Int)] W fun e w' => e = .returned (.bool b) ∧ Below W.heap.size W w') := hid (by rw [gb]; exact HCL.out)
            generalize (F.P m).k = km at dk g1 hk
            subst hk
            clear HKj HCL gb HK HIH HRy HRn g1
            have HX : Hid (Below wr.heap.size wr ((wr.alloc (.cells #[.string sj, .int .i64 (m : Int)] 119)))) := hid ((Below.refl _ _).alloc (Nat.le_refl _) _)
            cases b with
            | true =>
              have HY2 := hid (HY.out rfl)
              clear HY HS
              go_wp2_with fail
              go_region_held3 (fun W => W.cell? ⟨x, 0, none⟩ = some (.slice (some ⟨g, 0, none⟩) 17 17) ∧ W.cell? ⟨wr.heap.size, 1, none⟩ = some (.int .i64 (m : Int)) ∧ W.cell? ⟨g, m * 6, none⟩ = some (.int .i64 2)) (first | (refine ⟨?_, ?_, ?_⟩ <;> assumption) | go_keep) ((go_at_call 75; refine (HC2.out _ (HRF.out.grow (by first | exact HX.out | exact HX.out.drew))).mono ?_; rintro e w2 ⟨rfl, hb2⟩; have y : ∀ b o, b < wr.heap.size + 1 → w2.cell? ⟨b, o, none⟩ = (wr.alloc (.cells #[.string sj, .int .i64 (m : Int)] 119)).cell? ⟨b, o, none⟩ := fun b o hb => World.cell?_of_block (a := ⟨b, o, none⟩) (hb2.block b (by simpa using hb)); have HB2 : Hid (Below wr.heap.size wr w2) := hid (by first | exact HX.out.trans (hb2.mono (by simp)) | exact HX.out.drew.trans (hb2.mono (by simp)))))
              all_goals
                go_wp2_with fail
                go_ret
                rw [HY2.out]
                exact ⟨rfl, HB.out.trans (HB2.out.mono HBs.out)⟩
            | false =>
              have HS2 := hid (HS.out rfl)
              clear HY HS
              go_wp2_with fail
              go_region_held3 (fun W => W.cell? ⟨x, 0, none⟩ = some (.slice (some ⟨g, 0, none⟩) 17 17) ∧ W.cell? ⟨wr.heap.size, 1, none⟩ = some (.int .i64 (m : Int)) ∧ W.cell? ⟨g, m * 6, none⟩ = some (.int .i64 2)) (first | (refine ⟨?_, ?_, ?_⟩ <;> assumption) | go_keep) ((go_at_call 75; refine (HC2.out _ (HRF.out.grow (by first | exact HX.out | exact HX.out.drew))).mono ?_; rintro e w2 ⟨rfl, hb2⟩; have y : ∀ b o, b < wr.heap.size + 1 → w2.cell? ⟨b, o, none⟩ = (wr.alloc (.cells #[.string sj, .int .i64 (m : Int)] 119)).cell? ⟨b, o, none⟩ := fun b o hb => World.cell?_of_block (a := ⟨b, o, none⟩) (hb2.block b (by simpa using hb)); have HB2 : Hid (Below wr.heap.size wr w2) := hid (by first | exact HX.out.trans (hb2.mono (by simp)) | exact HX.out.drew.trans (hb2.mono (by simp)))))
              all_goals
                go_wp2_with fail
                go_roundw
                case rel => exact ⟨j + 1, by omega, by go_num, hid (HB.out.trans (HB2.out.mono HBs.out)), HS2⟩
                case measure => simp [intOf]; omega
          · have g1 : ((F.P m).k == 2) = false := by simpa using hk
            have HS2 := hid (HS.out (HKj.out hk))
            have HX : Hid (Below wr.heap.size wr ((wr.alloc (.cells #[.string sj, .int .i64 (m : Int)] 119)))) := hid ((Below.refl _ _).alloc (Nat.le_refl _) _)
            generalize (F.P m).k = km at dk g1 hk
            clear HKj HCL HK HIH HRy HRn HS HY
            go_wp2_with fail
            go_quiet (fail)
            go_wp2_with fail
            go_roundw
            case rel => exact ⟨j + 1, by omega, by go_num, hid (HB.out.trans ((below_drewN HX.out _).mono HBs.out)), HS2⟩
            case measure => simp [intOf]; omega
        · have hj2 : ¬ (j : Int) < (L : Int) := by omega
          have HR0 := hid (HRn.out (fun k h => HN.out k h (by have := GL.out; omega)))
          clear HIH HRy HRn HK
          go_wp2_with fail
          go_ret
          rw [HR0.out]
          exact ⟨rfl, HB.out⟩

end Go.Proofs.YtliekndkjjaldaaGreat
