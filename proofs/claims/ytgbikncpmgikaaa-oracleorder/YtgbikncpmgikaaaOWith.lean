/- What within and take do. -/
import Derived.Test.YtgbikncpmgikaaaOCnt
namespace Go.Proofs.Ytgbikncpmgikaaa
open Go.RowKit
set_option linter.unusedVariables false
set_option maxRecDepth 20000

/-- Each number that has a count has one there. -/
def Wi (F G : Int → Nat) : Prop := ∀ k, W64 k → F k ≠ 0 → G k ≠ 0
noncomputable def wiB (F G : Int → Nat) : Bool := @decide (Wi F G) (Classical.propDecidable _)
theorem wiB_true {F G : Int → Nat} (h : Wi F G) : wiB F G = true := by unfold wiB; exact @decide_eq_true _ (Classical.propDecidable _) h
theorem wiB_false {F G : Int → Nat} (h : ¬ Wi F G) : wiB F G = false := by unfold wiB; exact @decide_eq_false _ (Classical.propDecidable _) h

set_option maxHeartbeats 2000000 in
theorem within_any (w : World) (c t n N n' N' : Nat) (F G : Int → Nat) (hc : Oc w c n N F) (ht : Oc w t n' N' G) :
    Calls Try.prog 19 #[.map (some c), .map (some t)] w fun e w' => e = .returned (.bool (wiB F G)) ∧ Upd (fun _ => False) w w' := by
  obtain ⟨D, hown, hD⟩ := hc
  have hcl := hown.lt
  have HT := hid ht
  have HD := hid hD
  clear ht hD
  go_enter Try.func19, Try.ntmps19
  go_wp2_with (first
    | (at_range; refine wpList_range_own _ rfl _ 49 rfl 3 3 kint Try.underlying49 _ c n D rfl hown ?_; intro w0 hrg0 hg0 hs0)
    | go_in)
  go_frame
  have HU0 : Hid (Upd (fun _ => False) w w0) := hid ((Upd.of_grown hg0).mono (fun x _ h => by cases h))
  go_loopw [9] (fun _ wr => ∃ (left : Lit → Bool) (cnt : Nat), wr.ranges Try.prog 3 (plainElem Try.prog 3) c w.heap.size n D left cnt ∧ Hid (∀ k, W64 k → F k ≠ 0 → left (.int .i64 k) = true ∨ G k ≠ 0) ∧ Hid (Upd (fun _ => False) w wr))
    (fun _ wr => wr.rangeLeft c w.heap.size)
  case atStart =>
    exact ⟨_, _, hrg0, hid fun k hk hF => .inl (by rw [(HD.out.2 k hk).1]; simpa using hF), HU0⟩
  case round =>
    obtain ⟨left, cnt, hrg, HL, HU⟩ := hrel
    rename World => wr
    clear hrg0 hg0 hs0 HU0
    go_wp2_with (first
      | (at_next; refine wpList_next_ranges_ii _ rfl _ rfl 3 3 .i64 .i64 kint Try.underlying3 Try.underlying3 c w.heap.size n _ _ _ rfl hrg ?_ ?_)
      | go_in)
    · intro hc0 hl0
      have HE : Hid (Wi F G) := hid fun k hk hF => by
        rcases HL.out k hk hF with h | h
        · rw [hl0] at h; cases h
        · exact h
      clear hl0
      go_wp2_with fail
      go_ret
      rw [wiB_true HE.out]
      exact ⟨rfl, HU.out⟩
    · intro x cx w1 cnt1 hwx hwc hlx hat hrg1 hlt hg1 hs1 hen
      have hx := W64.of hwx
      have HFx : Hid (F x ≠ 0) := hid (by
        have h1 := Maps.has_true_of_atKey hat
        rw [(HD.out.2 x hx).1] at h1
        simpa using h1)
      have HU1 : Hid (Upd (fun _ => False) w w1) := hid (HU.out.trans (Upd.of_grown hg1) (fun y hy h => by injection h with h; omega))
      have hlk := oc_look (HT.out.upd HU1.out (fun h => h)) hx
      have HL1 : Hid (G x ≠ 0 → ∀ k, W64 k → F k ≠ 0 → (fun z : Lit => left z && !z.sameKey (.int .i64 x)) (.int .i64 k) = true ∨ G k ≠ 0) := hid fun hG k hk hF => by
        by_cases q : k = x
        · subst q; exact .inr hG
        · rcases HL.out k hk hF with h | h
          · left; simp [h, Maps.sameKey_ne (lit_ne q)]
          · exact .inr h
      clear hat hwx hwc hlx hg1 hs1
      by_cases hG : G x = 0
      · have HGx := hid hG
        have hz : (G x : Int) = 0 := by omega
        rw [hz] at hlk
        clear hG hz
        go_wp2_with fail
        go_ret
        rw [wiB_false (fun h => absurd HGx.out (h x hx HFx.out))]
        exact ⟨rfl, HU1.out⟩
      · have HL2 := hid (HL1.out hG)
        have hz : ((G x : Int) == 0) = false := by simpa using hG
        generalize (G x : Int) = g at hlk hz
        clear hG
        go_wp2_with fail
        go_roundw
        case rel => exact ⟨_, cnt1, hrg1, HL2, HU1⟩
        case measure => rw [hrg1.left_eq, hrg.left_eq]; exact hlt

/-- Numbers as they lie. -/
structure IntL (w : World) (a : Option Addr) (l : List Int) : Prop where
  wf : ∀ x ∈ l, W64 x
  ex : 0 < l.length → ∃ b o, a = some ⟨b, o, none⟩ ∧ b < w.heap.size ∧ ∀ j, j < l.length → w.cell? ⟨b, o + j, none⟩ = some (.int .i64 (l.getD j 0))
theorem IntL.upd {G : Nat → Prop} {w w' : World} {a : Option Addr} {l : List Int} (h : IntL w a l) (u : Upd G w w') (hG : ∀ b o, a = some ⟨b, o, none⟩ → b < w.heap.size → 0 < l.length → ¬ G b) : IntL w' a l :=
  ⟨h.wf, fun hn => by
    obtain ⟨b, o, e, hb, hc⟩ := h.ex hn
    exact ⟨b, o, e, Nat.lt_of_lt_of_le hb u.size, fun j hj => (World.cell?_of_block (a := ⟨b, o + j, none⟩) (u.block b hb (hG b o e hb hn))).trans (hc j hj)⟩⟩

/-- What is left of counts when a list's numbers are taken, and whether all were there; how many numbers have a count. -/
def tak : List Int → (Int → Nat) × Nat → Bool × ((Int → Nat) × Nat)
  | [], s => (true, s)
  | x :: r, s => if s.1 x = 0 then (false, s) else tak r (dele s.1 x, s.2 - 1)

set_option maxHeartbeats 2000000 in
theorem take_any (w : World) (m n N : Nat) (F : Int → Nat) (a : Option Addr) (l : List Int) (c : Nat) (hm : Oc w m n N F) (hl : IntL w a l) (hab : ∀ b o, a = some ⟨b, o, none⟩ → b < w.heap.size → 0 < l.length → b ≠ m) (hln : l.length ≤ 9223372036854775807) :
    Calls Try.prog 17 #[.map (some m), .slice a l.length c] w fun e w' => e = .returned (.bool (tak l (F, N)).1) ∧ Oc w' m n (tak l (F, N)).2.2 (tak l (F, N)).2.1 ∧ Upd (· = m) w w' := by
  have HM := hid hm
  have HI := hid hl
  have HB := hid hab
  obtain ⟨z, gz⟩ : ∃ z, z = l.length := ⟨_, rfl⟩
  have GZ := hid gz
  rw [← gz] at hln ⊢
  clear hm hl hab gz
  go_enter Try.func17, Try.ntmps17
  go_wp2_with fail
  go_loopw [9] (fun k wr => ∃ (i : Nat), i ≤ z ∧ k = .int .i64 i ∧ Hid (∃ N1 F1, Oc wr m n N1 F1 ∧ tak l (F, N) = tak (l.drop i) (F1, N1)) ∧ Hid (Upd (· = m) w wr)) (fun k _ => z - (intOf k).toNat)
  case atStart => exact ⟨0, by omega, rfl, hid ⟨N, F, HM.out, rfl⟩, hid (Upd.refl _ _)⟩
  case round =>
    obtain ⟨i, hi, rfl, HS, HU⟩ := hrel
    rename World => wr
    by_cases hlt : i < z
    · have hln : i < l.length := by rw [← GZ.out]; exact hlt
      obtain ⟨b, o, rfl, hbl, hc⟩ := (HI.out.upd HU.out HB.out).ex (by omega)
      have ci := hc i hln
      have hx := HI.out.wf _ (getD_mem l i 0 hln)
      have HD : Hid (l.drop i = l.getD i 0 :: l.drop (i + 1)) := hid (by rw [List.drop_eq_getElem_cons hln]; simp [List.getD, hln])
      generalize l.getD i 0 = x at *
      clear hc
      obtain ⟨N1, F1, hO, hT⟩ := HS.out
      rw [HD.out] at hT
      have hlk := oc_look hO hx
      by_cases hz : F1 x = 0
      · have HE : Hid (tak l (F, N) = (false, (F1, N1))) := hid (by rw [hT]; simp [tak, hz])
        have HO := hid hO
        have h0 : (F1 x : Int) = 0 := by omega
        rw [h0] at hlk
        clear hT hO hz h0 HS
        go_wp2_with fail
        go_ret
        rw [HE.out]
        exact ⟨rfl, HO.out, HU.out⟩
      · have hT' : tak l (F, N) = tak (l.drop (i + 1)) (dele F1 x, N1 - 1) := by rw [hT]; simp [tak, hz]
        obtain ⟨w1, hdl, hO1, hU1⟩ := oc_del hO hx 0
        have hdl' : ∀ ty, (Builtin.delete_ #[49, 3] ty #[.map (some m), .int .i64 x]).run Try.prog wr = .ok (.tuple #[]) w1 := fun ty => hdl
        rw [if_neg hz] at hO1
        have HS1 : Hid (∃ N1 F1, Oc w1 m n N1 F1 ∧ tak l (F, N) = tak (l.drop (i + 1)) (F1, N1)) := hid ⟨_, _, hO1, hT'⟩
        have HU1 : Hid (Upd (· = m) w w1) := hid (HU.out.trans hU1 (fun _ _ h => h))
        have h0 : ((F1 x : Int) == 0) = false := by simpa using hz
        generalize (F1 x : Int) = f at hlk h0
        clear hT hO hz HS hT' hO1 hU1 hdl
        go_wp2_with fail
        go_roundw
        case rel => exact ⟨i + 1, by omega, by go_num, HS1, HU1⟩
        case measure => simp [intOf]; omega
    · have hin : i = z := by omega
      subst hin
      obtain ⟨N1, F1, hO, hT⟩ := HS.out
      rw [List.drop_eq_nil_of_le (by rw [← GZ.out]; exact Nat.le_refl _)] at hT
      have HE : Hid (tak l (F, N) = (true, (F1, N1))) := hid hT
      have HO := hid hO
      clear hT hO HS
      go_wp2_with fail
      go_ret
      rw [HE.out]
      exact ⟨rfl, HO.out, HU.out⟩

end Go.Proofs.Ytgbikncpmgikaaa
