/- What journal.Open, Used, Generation do, and disk.Epochs of a disk at rest. -/
import Derived.Test.YtkmnhpnlkmiiiaaGreatDoorJRest
import Derived.Test.YtkmnhpnlkmiiiaaGreatDoorDImg
import Derived.Test.YtkmnhpnlkmiiiaaGreatDoorDCopied2
import Derived.OwnWalk
namespace Go.Proofs.YtkmnhpnlkmiiiaaGreatDoor
open Go.RowKit Num Jr
set_option linter.unusedVariables false
set_option maxRecDepth 20000

set_option maxHeartbeats 1000000 in
set_option maxRecDepth 20000 in
theorem img_eqf (a1 a2 : Option Addr) (n c1 c2 : Nat) (L : List (List Int)) (w : World) (h1 : Img w a1 L) (h2 : Img w a2 L) (hn : L.length = n) (k1 : n ≤ c1) (k2 : c1 ≤ 9223372036854775807) (k3 : n ≤ c2) (k4 : c2 ≤ 9223372036854775807) :
    Calls Tryz.prog 11 #[.slice a1 n c1, .slice a2 n c2, .func (.func 12) #[] #[]] w fun e w' => e = .returned (.bool true) ∧ w' = w := by
  have H1 := hid h1
  have H2 := hid h2
  have HN := hid hn
  clear h1 h2 hn
  go_enter Tryz.func11, Tryz.ntmps11
  go_wp2_with fail
  go_loop [17] (fun k => ∃ i : Nat, k = .int .i64 i ∧ i ≤ n) (fun k => n - (intOf k).toNat)
  case atStart => exact ⟨0, rfl, Nat.zero_le _⟩
  case round =>
    obtain ⟨i, rfl, hi⟩ := hrel
    by_cases hlt : i < n
    · have hil : i < L.length := by rw [HN.out]; exact hlt
      obtain ⟨b1, o1, e1, hb1, hc1⟩ := H1.out (by omega)
      obtain ⟨b2, o2, e2, hb2, hc2⟩ := H2.out (by omega)
      subst e1
      subst e2
      obtain ⟨u, hu, a, cc, eu, hs, _⟩ := hc1 i hil
      obtain ⟨u2, hu2, a', cc2, eu2, hs2, _⟩ := hc2 i hil
      subst eu
      subst eu2
      have ke := hid (equal_yes a a' L[i].length cc L[i].length cc2 L[i] w hs hs2)
      obtain ⟨m, gm⟩ : ∃ m, m = L[i].length := ⟨_, rfl⟩
      rw [← gm] at hu hu2 ke
      clear hc1 hc2 hs hs2 gm
      go_wp2_with fail
      refine ke.out.mono ?_
      rintro r w2 ⟨rfl, h⟩
      subst w2
      go_wp2_with fail
      go_round
      case rel => exact ⟨i + 1, by go_num, by omega⟩
      case measure => simp [intOf]; omega
    · obtain rfl : i = n := by omega
      go_wp2_with fail
      go_ret
      exact ⟨rfl, rfl⟩


theorem jusable (jp p gen first size groups used cnt : Nat) (wv : Value) (w : World) (h : Jc w jp p gen first size groups used wv cnt) : Calls Tryz.prog 33 #[.pointer (some ⟨jp, 0, none⟩)] w fun e w' => e = .returned (.bool true) ∧ w' = w := by
  have c0 : w.cell? ⟨jp, 0, none⟩ = some (.pointer (some ⟨p, 0, none⟩)) := heap_cells h 0 _ rfl
  clear h
  go_enter Tryz.func33, Tryz.ntmps33
  go_wp2_with fail
  go_ret
  exact ⟨rfl, rfl⟩

theorem jused (jp p gen first size groups used cnt : Nat) (wv : Value) (w : World) (h : Jc w jp p gen first size groups used wv cnt) : Calls Tryz.prog 26 #[.pointer (some ⟨jp, 0, none⟩)] w fun e w' => e = .returned (.int .i64 used) ∧ w' = w := by
  have k := hid (jusable jp p gen first size groups used cnt wv w h)
  have c5 : w.cell? ⟨jp, 5, none⟩ = some (.int .i64 used) := heap_cells h 5 _ rfl
  clear h
  go_enter Tryz.func26, Tryz.ntmps26
  go_wp2_with (first | (go_at_call 33; refine k.out.mono ?_; rintro r w1 ⟨rfl, h⟩; subst w1))
  go_ret
  exact ⟨rfl, rfl⟩

theorem jgen (jp p gen first size groups used cnt : Nat) (wv : Value) (w : World) (h : Jc w jp p gen first size groups used wv cnt) : Calls Tryz.prog 21 #[.pointer (some ⟨jp, 0, none⟩)] w fun e w' => e = .returned (.int .i64 gen) ∧ w' = w := by
  have k := hid (jusable jp p gen first size groups used cnt wv w h)
  have c1 : w.cell? ⟨jp, 1, none⟩ = some (.int .i64 gen) := heap_cells h 1 _ rfl
  clear h
  go_enter Tryz.func21, Tryz.ntmps21
  go_wp2_with (first | (go_at_call 33; refine k.out.mono ?_; rintro r w1 ⟨rfl, h⟩; subst w1))
  go_ret
  exact ⟨rfl, rfl⟩

theorem RcsT.img {w : World} {B m : Nat} {v : Value} {L : List (List Int)} (h : RcsT w B m v L) (hl : ∀ l ∈ L, l.length ≤ 140737488355328) : ∃ a c, v = .slice a L.length c ∧ L.length ≤ c ∧ c ≤ 9223372036854775807 ∧ Img w a L := by
  obtain ⟨us, ho, hm, hj⟩ := h
  obtain ⟨a, c, rfl, h1, h2⟩ := own_shape ho
  refine ⟨a, c, rfl, h1, h2, fun h0 => ?_⟩
  obtain ⟨g, rfl⟩ : ∃ g, a = some ⟨g, 0, none⟩ := by
    rcases ho.2 with ⟨_, h⟩ | ⟨g, c, cur, h, _⟩
    · omega
    · injection h with h1 h2 h3; exact ⟨g, h1⟩
  refine ⟨g, 0, rfl, (ho.lt g rfl).2, fun j hjl => ?_⟩
  obtain ⟨u, h3, b, c', e, h4, h5, h6, h7, h8, h9⟩ := hj j hjl
  exact ⟨u, by rw [Nat.zero_add, ho.cellAt _ (by omega)]; exact h3, some ⟨b, 0, none⟩, c', e, h4, fun _ b' o' _ hx => (by simp at hx), h8, h9, (fun h => by cases h), hl _ (List.getElem_mem hjl)⟩

/-- What Open leaves of a disk of four sectors and more. -/
def OpenP (d : Dk) (w : World) (p n : Nat) (S : Nat → List Int) (e : Ending) (w' : World) : Prop :=
  ∃ (jp : Nat) (v : Value) (d' : Dk) (m : Nat), e = .returned (.tuple #[.pointer (some ⟨jp, 0, none⟩), v, .int .i64 0]) ∧ w.heap.size ≤ jp ∧ jp ∉ d'.foot p ∧ Jstep d w d' w' p n (openS n S) ∧ d'.rest ∧ Jc w' jp p (openGen S) (firstOf (openGen S) n) (szOf n) (opened n S).2.1 (opened n S).2.2 (.slice none 0 0) 0 ∧ RcsT w' w.heap.size m v (opened n S).1 ∧ (∀ x ∈ d'.foot p, x < w.heap.size ∨ m ≤ x)

set_option maxHeartbeats 2000000 in
theorem jopen_any (d : Dk) (p n : Nat) (S : Nat → List Int) (w : World) (J : Jd d w p n S) (hr : d.rest) (hT : Tab w) (hdT : 1 ∉ d.foot p) (hn4 : 4 ≤ n) :
    Calls Tryz.prog 28 #[.pointer (some ⟨p, 0, none⟩)] w (OpenP d w p n S) := by
  have hTl : 1 < w.heap.size := World.block_lt_of_cell? _ _ (hT 0 (by omega))
  obtain ⟨W0, g0⟩ : ∃ W0, W0 = w.alloc (.cells #[.pointer (some ⟨p, 0, none⟩), .int .i64 0, .int .i64 0, .int .i64 0, .int .i64 0, .int .i64 0, .slice none 0 0, .int .i64 0] 59) := ⟨_, rfl⟩
  have hb0 : Below w.heap.size w W0 := by rw [g0]; exact (Below.refl _ _).alloc (Nat.le_refl _) _
  have hs0 : W0.heap.size = w.heap.size + 1 := by rw [g0]; simp
  obtain ⟨jp, gjp⟩ : ∃ jp, jp = w.heap.size := ⟨_, rfl⟩
  have hj0 : Jc W0 jp p 0 0 0 0 0 (.slice none 0 0) 0 := by unfold Jc; rw [gjp, g0]; exact heap_alloc_new _ _
  have hjf : jp ∉ d.foot p := fun hx => by have := J.ok.lt jp hx; omega
  have d0 : W0.cell? ⟨jp, 0, none⟩ = some (.pointer (some ⟨p, 0, none⟩)) := heap_cells hj0 0 _ rfl
  have kr := hid (jread_any d p n 0 S W0 (J.below hb0) (by omega))
  have ks := hid (fun (wx : World) (hb : Below w.heap.size w wx) => dsectors d p wx (J.below hb).ok)
  rw [J.dn] at ks
  have ke := hid (fun (wx : World) (hb : Below w.heap.size w wx) (hj : Jc wx jp p 0 0 0 0 0 (.slice none 0 0) 0) => restore_any d jp p n 0 (.slice none 0 0) S wx hj (J.below hb) hr hjf (hT.below hb hTl) (by omega) hdT hn4)
  have hnv : ¬ (n : Int) < 4 := by omega
  have G0 := hid g0
  have GJ := hid gjp
  have HB0 := hid hb0
  have HJ0 := hid hj0
  have HJ := hid J
  have HS0 := hid hs0
  clear g0 gjp hb0 hj0 hs0 J hr hT hjf
  go_enter Tryz.func28, Tryz.ntmps28
  go_upto_region 2 with fail
  rw [← G0.out, ← GJ.out]
  go_wp2_with (first | (go_at_call 51; refine kr.out.mono ?_; rintro r w1 ⟨g1, c1, rfl, ho1, hb1⟩; have HB1 : Hid (Below w.heap.size w w1) := hid (HB0.out.trans (hb1.mono HB0.out.size)); have HJ1 : Hid (Jc w1 jp p 0 0 0 0 0 (.slice none 0 0) 0) := hid ((hb1.block jp (Array.getElem?_eq_some_iff.1 HJ0.out).1).trans HJ0.out); have hw1 : W0.heap.size ≤ w1.heap.size := hb1.size; clear ho1 hb1) | (go_at_call 42; refine (ks.out _ HB1.out).mono ?_; rintro r w2 ⟨rfl, h⟩; subst w2) | (go_at_call 52; refine (ke.out _ HB1.out HJ1.out).mono ?_; rintro r w3 ⟨v3, d3, m3, rfl, hm3, hj3, hc3, hf3⟩; have HM3 := hid hm3; have HJ3 := hid hj3; have HC3 := hid hc3; have HF3 := hid hf3; clear hm3 hj3 hc3 hf3))
  go_ret3
  have hj := GJ.out
  have hs := HS0.out
  have hw := HB1.out.size
  refine ⟨jp, v3, d3, m3, rfl, by omega, fun hx => ?_, ⟨HM3.out.jd, ?_, ?_⟩, HM3.out.rest, HJ3.out, HC3.out.base hw, fun x hx => ?_⟩
  · rcases HM3.out.grew jp hx with h | h
    · have := HJ.out.ok.lt jp h; omega
    · omega
  · exact ⟨HM3.out.upd.os.trans HB1.out.os, HM3.out.upd.tape.trans HB1.out.tape, HM3.out.upd.output.trans HB1.out.output, Nat.le_trans hw HM3.out.upd.size, fun k hk hn => (HM3.out.upd.block k (by omega) (fun h => by
      rcases h with h | h
      · omega
      · exact hn h)).trans (HB1.out.block k hk)⟩
  · intro x hx
    rcases HM3.out.grew x hx with h | h
    · exact .inl h
    · exact .inr (Nat.le_trans hw h)
  · rcases HM3.out.grew x hx with h | h
    · exact .inl (HJ.out.ok.lt x h)
    · rcases HF3.out x hx with h' | h'
      · omega
      · exact .inr h'

/-- Open of fewer sectors. -/
theorem jopen_few (d : Dk) (p n : Nat) (S : Nat → List Int) (w : World) (J : Jd d w p n S) (hn1 : 1 ≤ n) (hn4 : n < 4) :
    Calls Tryz.prog 28 #[.pointer (some ⟨p, 0, none⟩)] w fun e w' => e = .returned (.tuple #[.pointer none, .slice none 0 0, .int .i64 1]) ∧ Below w.heap.size w w' := by
  obtain ⟨W0, g0⟩ : ∃ W0, W0 = w.alloc (.cells #[.pointer (some ⟨p, 0, none⟩), .int .i64 0, .int .i64 0, .int .i64 0, .int .i64 0, .int .i64 0, .slice none 0 0, .int .i64 0] 59) := ⟨_, rfl⟩
  have hb0 : Below w.heap.size w W0 := by rw [g0]; exact (Below.refl _ _).alloc (Nat.le_refl _) _
  obtain ⟨jp, gjp⟩ : ∃ jp, jp = w.heap.size := ⟨_, rfl⟩
  have hj0 : Jc W0 jp p 0 0 0 0 0 (.slice none 0 0) 0 := by unfold Jc; rw [gjp, g0]; exact heap_alloc_new _ _
  have d0 : W0.cell? ⟨jp, 0, none⟩ = some (.pointer (some ⟨p, 0, none⟩)) := heap_cells hj0 0 _ rfl
  have kr := hid (jread_any d p n 0 S W0 (J.below hb0) (by omega))
  have ks := hid (fun (wx : World) (hb : Below w.heap.size w wx) => dsectors d p wx (J.below hb).ok)
  rw [J.dn] at ks
  have hnv : (n : Int) < 4 := by omega
  have G0 := hid g0
  have GJ := hid gjp
  have HB0 := hid hb0
  clear g0 gjp hb0 hj0 J
  go_enter Tryz.func28, Tryz.ntmps28
  go_upto_region 2 with fail
  rw [← G0.out, ← GJ.out]
  go_wp2_with (first | (go_at_call 51; refine kr.out.mono ?_; rintro r w1 ⟨g1, c1, rfl, ho1, hb1⟩; have HB1 : Hid (Below w.heap.size w w1) := hid (HB0.out.trans (hb1.mono HB0.out.size)); clear ho1 hb1) | (go_at_call 42; refine (ks.out _ HB1.out).mono ?_; rintro r w2 ⟨rfl, h⟩; subst w2))
  go_ret3
  exact ⟨rfl, HB1.out⟩

end Go.Proofs.YtkmnhpnlkmiiiaaGreatDoor
