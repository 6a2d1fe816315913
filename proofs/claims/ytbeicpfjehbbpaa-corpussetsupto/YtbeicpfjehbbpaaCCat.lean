/- What slices.Grow of nil, slices.Concat of two lists and the program's Merge do. -/
import Derived.Test.YtbeicpfjehbbpaaCProg
namespace Go.Proofs.Ytbeicpfjehbbpaa
open Go.RowKit Go.Sort
set_option linter.unusedVariables false

theorem grow_nil (n : Nat) (w : World) (hn : n * 8 ≤ 140737488355328) :
    Calls Try.prog 18 #[.slice none 0 0, .int .i64 n] w fun e w' => ∃ v, e = .returned v ∧ w'.ownsRow w.heap.size 3 1 v 0 [] ∧ Below w.heap.size w w' := by
  rcases Nat.eq_zero_or_pos n with h | h
  · subst h
    refine (Any8.slices_Grow_room Try.grow18 none 0 0 0 w (by omega) (by omega) (by omega) (by omega)).mono ?_
    rintro e w' ⟨rfl, rfl⟩
    exact ⟨_, rfl, World.ownsRow_nil _ _ _ _, Below.refl _ _⟩
  · obtain ⟨i0, hi0, hz0, hz1, hz2⟩ := info_parts infoInt
    refine (Any8.slices_Grow_grow Try.grow18 i0 _ hi0 hz0 (by omega) none 0 0 n [] w (by omega) (by omega) (by rw [hz2]; omega) (by omega) (by simp) (fun _ => rfl) (fun a e => by cases e)).mono ?_
    rintro e w' ⟨rfl, rfl⟩
    have hcap : grownCap w (0 + n) 0 3 ≤ maxLen := grownCap_le_maxLen w _ _ _ (by unfold maxLen; omega)
    have hge := grownCap_ge w (0 + n) 0 3
    have hge2 : n ≤ grownCap w n 0 3 := grownCap_ge w n 0 3
    refine ⟨_, rfl, ⟨by simp, .inr ⟨_, grownCap w (0 + n) 0 3, _, rfl, Nat.le_refl _, heap_alloc_new w.drew _, by omega, hcap, ?_, by simp⟩⟩, (Below.refl _ _).drew.alloc (by simp) _⟩
    have e25 : Try.grow18_ren.t 25 = 3 := rfl
    rw [Nat.zero_add] at hge ⊢
    simp only [e25]
    simp [size_zeroCells, Value.cells]
    omega

set_option maxHeartbeats 2000000 in
set_option maxRecDepth 20000 in
theorem concat_two (p : Nat) (a : Option Addr) (n c : Nat) (l : List Int) (b : Option Addr) (m d : Nat) (k : List Int) (w : World) (h : Ilst w a n c l) (q : Ilst w b m d k) (hn : (n + m) * 8 ≤ 140737488355328)
    (hp : p < w.heap.size) (c0 : w.cell? ⟨p, 0, none⟩ = some (.slice a n c)) (c1 : w.cell? ⟨p, 1, none⟩ = some (.slice b m d)) :
    Calls Try.prog 11 #[.slice (some ⟨p, 0, none⟩) 2 2] w fun e w' => ∃ a' c', e = .returned (.slice a' (l ++ k).length c') ∧ Wlst w' w.heap.size a' (l ++ k).length c' (l ++ k) ∧ Below w.heap.size w w' := by
  obtain ⟨i0, hi0, hz0, hz1, hz2⟩ := info_parts infoInt
  obtain ⟨N, hN⟩ : ∃ N, N = (l ++ k).length := ⟨_, rfl⟩
  rw [← hN]
  have HN := hid hN
  clear hN
  have HL := hid h
  have HK := hid q
  have hl := hid h.size
  have hk := hid q.size
  have b0 : (0 : Int) ≤ n := by omega
  have b1 : (0 : Int) ≤ (n : Int) + m := by omega
  have b2 : wrap64 ((n : Int) + m) = (n : Int) + m := by unfold wrap64; omega
  have b3 : wrap64 (n : Int) = (n : Int) := by unfold wrap64; omega
  have b4 : ¬ ((n : Int) < 0) := by omega
  have b5 : ¬ ((n : Int) + m < 0) := by omega
  clear h q
  go_enter Try.func11, Try.ntmps11
  go_wp2_with fail
  go_loop [3, 11] (fun s i => (i = .int .i64 0 ∧ s = .int .i64 0) ∨ (i = .int .i64 1 ∧ s = .int .i64 n) ∨ (i = .int .i64 2 ∧ s = .int .i64 ((n : Int) + m))) (fun _ i => 2 - (intOf i).toNat)
  case atStart => exact .inl ⟨rfl, rfl⟩
  case round =>
    rcases hrel with ⟨rfl, rfl⟩ | ⟨rfl, rfl⟩ | ⟨rfl, rfl⟩
    · go_wp2_with fail
      go_round
      case rel => exact .inr (.inl ⟨by go_num, by go_num⟩)
      case measure => simp [intOf]
    · go_wp2_with fail
      go_round
      case rel => exact .inr (.inr ⟨by go_num, by go_num⟩)
      case measure => simp [intOf]
    · have k1 := hid (grow_nil (n + m) w hn)
      rw [show ((n + m : Nat) : Int) = (n : Int) + m by omega] at k1
      go_wp2_with fail
      refine k1.out.mono ?_
      rintro e w1 ⟨v, rfl, hO, hb⟩
      have HO1 := hid hO
      have HB1 := hid hb
      have d0 := (hb.cell (p := ⟨p, 0, none⟩) hp).trans c0
      have d1 := (hb.cell (p := ⟨p, 1, none⟩) hp).trans c1
      have HC0 := hid c0
      have HC1 := hid c1
      clear k1 hO hb c0 c1 b0 b1 b2 b3 b4 b5
      go_wp2_with fail
      go_loopw [6, 27] (fun v i wr => ∃ (j : Nat) (ys : List Int), j ≤ 2 ∧ i = .int .i64 j ∧ Hid (wr.ownsRow w.heap.size 3 1 v ys.length (ys.map (Value.int .i64))) ∧ Hid (ys = if j = 0 then [] else if j = 1 then l else l ++ k) ∧ Hid (Below w.heap.size w wr)) (fun _ i _ => 2 - (intOf i).toNat)
      case atStart => exact ⟨0, [], by omega, rfl, HO1, hid rfl, HB1⟩
      case round =>
        obtain ⟨j, ys, hj, rfl, HO, HY, HB⟩ := hrel
        clear d0 d1 HO1 HB1
        rcases (show j = 0 ∨ j = 1 ∨ j = 2 by omega) with rfl | rfl | rfl
        · have d0 := (HB.out.cell (p := ⟨p, 0, none⟩) hp).trans HC0.out
          have HI := hid (HL.out.below HB.out)
          have hy : ys = [] := HY.out
          rw [hy] at HO
          clear hy HY
          have hws := HB.out.size
          have HB3 := HB
          go_wp2_with (at_builtin; go_must (refine wpList_append_lst _ rfl (.tmp 31) (.tmp 32) 22 rfl w.heap.size i0 Try.underlying22 hi0 hz0 hz1 hz2 _ 0 _ rfl HO.out a n c l rfl HI.out (by have := hl.out; have := hk.out; omega) hws ?_))
          intro v2 w2 hO2 hG2
          have HO2 : Hid (w2.ownsRow w.heap.size 3 1 v2 (l).length ((l).map (Value.int .i64))) := by
            have e : (l).length = 0 + n := by have := hl.out; omega
            rw [e]; refine hid ?_; simpa using hO2
          have HB2 := hid (HB.out.grown hG2 HB.out.size (fun x hx => (HO.out.lt x hx).1))
          clear hO2 hG2 d0
          go_wp2_with fail
          go_roundw
          case rel => exact ⟨1, l, by omega, by go_num, HO2, hid rfl, HB2⟩
          case measure => simp [intOf]
        · have d0 := (HB.out.cell (p := ⟨p, 1, none⟩) hp).trans HC1.out
          have HI := hid (HK.out.below HB.out)
          have hy : ys = l := HY.out
          rw [hy] at HO
          clear hy HY
          have hws := HB.out.size
          have HB3 := HB
          go_wp2_with (at_builtin; go_must (refine wpList_append_lst _ rfl (.tmp 31) (.tmp 32) 22 rfl w.heap.size i0 Try.underlying22 hi0 hz0 hz1 hz2 _ l.length _ rfl HO.out b m d k rfl HI.out (by have := hl.out; have := hk.out; omega) hws ?_))
          intro v2 w2 hO2 hG2
          have HO2 : Hid (w2.ownsRow w.heap.size 3 1 v2 (l ++ k).length ((l ++ k).map (Value.int .i64))) := by
            have e : (l ++ k).length = l.length + m := by have := hk.out; rw [List.length_append]; omega
            rw [e]; refine hid ?_; simpa using hO2
          have HB2 := hid (HB.out.grown hG2 HB.out.size (fun x hx => (HO.out.lt x hx).1))
          clear hO2 hG2 d0
          go_wp2_with fail
          go_roundw
          case rel => exact ⟨2, l ++ k, by omega, by go_num, HO2, hid rfl, HB2⟩
          case measure => simp [intOf]
        · have hy : ys = l ++ k := HY.out
          rw [hy] at HO
          obtain ⟨a3, c3, e3, hW⟩ := own_wlst HO.out
          rw [← HN.out] at e3 hW
          subst e3
          have HW := hid hW
          clear hW hy HY HO
          go_wp2_with fail
          go_ret
          exact ⟨a3, c3, rfl, HW.out, HB.out⟩

set_option maxHeartbeats 1000000 in
theorem pmerge (a : Option Addr) (n c : Nat) (l : List Int) (b : Option Addr) (m d : Nat) (k : List Int) (w : World) (h : Ilst w a n c l) (q : Ilst w b m d k) (hn : (n + m) * 8 ≤ 140737488355328) :
    Calls Try.prog 5 #[.slice a n c, .slice b m d] w fun e w' => ∃ a' n' c' r, e = .returned (.slice a' n' c') ∧ Ilst w' a' n' c' r ∧ Rises (l ++ k) r ∧ Below w.heap.size w w' := by
  obtain ⟨W, gW⟩ : ∃ W, W = w.alloc (Obj.cells #[Value.slice a n c, Value.slice b m d] 22) := ⟨_, rfl⟩
  have hb : Below w.heap.size w W := by rw [gW]; exact (Below.refl _ _).alloc (Nat.le_refl _) _
  have hs : W.heap.size = w.heap.size + 1 := by rw [gW]; simp
  have c0 : W.cell? ⟨w.heap.size, 0, none⟩ = some (.slice a n c) := by rw [gW]; simp [go_sem]
  have c1 : W.cell? ⟨w.heap.size, 1, none⟩ = some (.slice b m d) := by rw [gW]; simp [go_sem]
  have k1 := hid (concat_two w.heap.size a n c l b m d k W (h.below hb) (q.below hb) hn (by omega) c0 c1)
  have HB := hid hb
  have GW := hid gW
  have hlk : (l ++ k).length * 8 ≤ 140737488355328 := by rw [List.length_append, h.size, q.size]; exact hn
  have HLK := hid hlk
  clear h q hb hs c0 c1 gW hlk
  generalize hN : (l ++ k).length = N at k1 HLK
  clear hN
  go_enter Try.func5, Try.ntmps5
  go_wp2_with fail
  rw [← GW.out]
  refine k1.out.mono ?_
  rintro e w1 ⟨a1, c1, rfl, hW, hb1⟩
  have k2 := hid (prise W.heap.size a1 N c1 (l ++ k) w1 hW HLK.out hb1.size)
  have HB1 := hid (HB.out.trans (hb1.mono HB.out.size))
  clear k1 hW hb1
  go_wp2_with fail
  refine k2.out.mono ?_
  rintro e w2 ⟨n2, rfl, hW2, hb2⟩
  have HW2 := hid hW2
  have HB2 := hid (HB1.out.trans (hb2.mono HB.out.size))
  clear k2 hW2 hb2
  go_wp2_with fail
  go_ret
  exact ⟨_, _, _, _, rfl, HW2.out.ilst, riseP_rises _, HB2.out⟩

end Go.Proofs.Ytbeicpfjehbbpaa
