/- What the document's Path does, and what Spoil does to a row of its caller's own. -/
import Derived.Test.YtnmgapnblmikeaaMRef2
namespace Go.Proofs.Ytnmgapnblmikeaa
open Go.RowKit Lend
set_option linter.unusedVariables false

set_option maxHeartbeats 1000000 in
theorem spoil_any (v : Value) (n c : Nat) (ad : Option Addr) (xs : List Int) (w : World) (B : Nat) (hv : v = .slice ad n c) (ho : w.ownsRow B 5 1 v n (xs.map (Value.int .u8))) (hn : n ≤ 140737488355328) :
    Calls Try.prog 17 #[v] w fun e w' => e = .returned (.tuple #[]) ∧ Upd (fun x => v.ownBlock = some x) w w' := by
  rcases ho.2 with ⟨h1, h2⟩ | ⟨g, cap, cur, h1, _⟩
  · subst h1
    subst h2
    clear hv
    go_enter Try.func17, Try.ntmps17
    go_wp2_with fail
    go_loop [5] (fun s => s = .int .i64 0) (fun _ => 0)
    case atStart => rfl
    case round =>
      subst hrel
      go_wp2_with fail
      go_end0
      exact ⟨rfl, Upd.refl _ _⟩
  · subst h1
    have HO := hid ho
    clear ho hv
    go_enter Try.func17, Try.ntmps17
    go_wp2_with fail
    go_loopw [5] (fun s wr => ∃ (i : Nat) (ys : List Int), i ≤ n ∧ s = .int .i64 i ∧ Hid (wr.ownsRow B 5 1 (.slice (some ⟨g, 0, none⟩) n cap) n (ys.map (Value.int .u8))) ∧ Upd (fun x => (Value.slice (some ⟨g, 0, none⟩) n cap).ownBlock = some x) w wr) (fun s _ => n - (intOf s).toNat)
    case atStart => exact ⟨0, xs, by omega, rfl, HO, Upd.refl _ _⟩
    case round =>
      obtain ⟨i, ys, hi, rfl, HW, hu⟩ := hrel
      by_cases h : i < n
      · have hl : ys.length = n := by have := HW.out.1; simpa using this
        have hcell : wr.cell? ⟨g, i, none⟩ = some (.int .u8 (ys.getD i 0)) := by
          rw [HW.out.cellAt i (by omega), List.getElem?_map, List.getD_eq_getElem?_getD, List.getElem?_eq_getElem (by omega)]; rfl
        have hfr : wr.frozen? ⟨g, i, none⟩ = false := HW.out.frozenAt i
        obtain ⟨z, gz⟩ : ∃ z, z = ys.getD i 0 := ⟨_, rfl⟩
        rw [← gz] at hcell
        have HN : Hid (∀ y, (wr.setCell ⟨g, i, none⟩ (.int .u8 y)).ownsRow B 5 1 (.slice (some ⟨g, 0, none⟩) n cap) n ((ys.set i y).map (Value.int .u8))) := by
          refine hid (fun y => ?_)
          rw [List.map_set]
          exact (HW.out.stored i (.int .u8 y)).1
        clear gz
        go_wp2_with fail
        go_roundw
        case rel => exact ⟨i + 1, _, by omega, by go_num, hid (HN.out _), hu.trans (Upd.setCell (F := fun x => (Value.slice (some ⟨g, 0, none⟩) n cap).ownBlock = some x) wr ⟨g, i, none⟩ _ rfl) (fun _ _ h => h)⟩
        case measure => simp [intOf]; omega
      · obtain rfl : i = n := by omega
        go_wp2_with fail
        go_end0
        exact ⟨rfl, hu⟩

theorem getD_drop (zs : List Int) (k j : Nat) : (zs.drop k).getD j 0 = zs.getD (k + j) 0 := by simp [List.getD, List.getElem?_drop]

set_option maxHeartbeats 1000000 in
theorem rpath_no (q : Nat) (addr : Int) (w : World) (hp : isPart addr 1 = false) :
    Calls Try.prog 21 #[.pointer (some ⟨q, 0, none⟩), .int .i64 addr] w fun e w' => e = .returned (.tuple #[.string ⟨#[]⟩, .int .i64 14]) ∧ w' = w := by
  have h := of_decide_eq_false hp
  by_cases c1 : addr < 4096
  · clear h hp
    go_enter Try.func21, Try.ntmps21
    go_wp2_with fail
    go_ret2
    exact ⟨rfl, rfl⟩
  · have c2 : 6144 ≤ addr := by omega
    clear h hp
    go_enter Try.func21, Try.ntmps21
    go_wp2_with fail
    go_ret2
    exact ⟨rfl, rfl⟩

set_option maxHeartbeats 1000000 in
set_option maxRecDepth 20000 in
theorem rpath_yes (q g c k : Nat) (addr : Int) (zs : List Int) (w : World) (h : Rsp w q g c zs) (ha : addr = 4096 + (k : Int)) (hk : k < 2048) :
    Calls Try.prog 21 #[.pointer (some ⟨q, 0, none⟩), .int .i64 addr] w fun e w' => e = .returned (.tuple #[.string (told (zs.drop k)).1, .int .i64 (told (zs.drop k)).2]) ∧ w' = w := by
  have hT : (zs.drop k).length = 2048 - k := by rw [List.length_drop, h.len]
  have hle := ahead_le (zs.drop k)
  have hcell := h.cell
  have hcap := h.cap
  unfold maxLen at hcap
  have hw : wrap64 (addr - 4096) = (k : Int) := by unfold wrap64; omega
  have hw' : addr - 4096 = (k : Int) := by omega
  have c1 : ¬ addr < 4096 := by omega
  have c2 : ¬ 6144 ≤ addr := by omega
  have hbc : ∀ i, i < 2048 → w.cell? ⟨g, i, none⟩ = some (.int .u8 (zs.getD i 0)) := fun i hi => by
    have := h.own.cellAt i (by omega)
    rw [this, List.getElem?_map, List.getD_eq_getElem?_getD, List.getElem?_eq_getElem (by rw [h.len]; exact hi)]; rfl
  have hsrc := hid (fun m (hm : m ≤ 2048 - k) => (show Src w (some ⟨g, k, none⟩) m ((zs.drop k).take m) from h.src k m k (by omega) (fun _ => rfl)).convert (P := Try.prog) (c - k) 27 5 9 Try.underlying27 Try.underlying5 Try.underlying9)
  obtain ⟨R, gR⟩ : ∃ R, R = told (zs.drop k) := ⟨_, rfl⟩
  rw [← gR]
  have HR := hid gR
  have HC := hid hbc
  have HT := hid hT
  clear ha hbc hT gR
  go_enter Try.func21, Try.ntmps21
  go_wp2_with fail
  go_loop [6] (fun s => ∃ i : Nat, k ≤ i ∧ i ≤ 2048 ∧ s = .int .i64 i ∧ Hid (∀ j, j < i - k → (zs.drop k).getD j 0 ≠ 0)) (fun s => 2048 - (intOf s).toNat)
  case atStart => exact ⟨k, Nat.le_refl _, by omega, by first | rfl | rw [hw'], hid (fun j hj => by omega)⟩
  case round =>
    obtain ⟨i, hki, hi, rfl, HN⟩ := hrel
    by_cases h1 : i < 2048
    · have hci := HC.out i h1
      obtain ⟨z, gz⟩ : ∃ z, z = zs.getD i 0 := ⟨_, rfl⟩
      rw [← gz] at hci
      have i1 : (0 : Int) ≤ (k : Int) := by omega
      have i2 : (k : Int) ≤ (i : Int) := by omega
      have i3 : (i : Int) ≤ (c : Int) := by omega
      have i5 : (i : Int) < 2048 := by omega
      have i6 : (0 : Int) ≤ (i : Int) := by omega
      by_cases hz : z = 0
      · have hah : ahead (zs.drop k) = i - k := ahead_uniq _ _ (by rw [HT.out]; omega) (by rw [getD_drop, show k + (i - k) = i by omega, ← gz, hz]) HN.out
        subst hz
        have hcv := hsrc.out (i - k) (by omega)
        obtain ⟨S, gS⟩ : ∃ S, S = strOfNums ((zs.drop k).take (i - k)) := ⟨_, rfl⟩
        have hSl : S.size = i - k := by rw [gS, strOfNums_size, List.length_take, HT.out]; omega
        have hR : R = if 24 < i - k then (⟨#[]⟩, 36) else (S, 0) := by rw [HR.out, told, hah, HT.out, if_pos (show i - k < 2048 - k by omega), gS]
        rw [← gS] at hcv
        have hck : ¬ (c = k) := by omega
        clear gS hsrc hah gz HN HR
        by_cases h2 : 24 < i - k
        · rw [if_pos h2] at hR
          subst hR
          have i4 : (24 : Int) < (S.size : Int) := by rw [hSl]; omega
          clear hSl
          go_wp2_with fail
          go_ret2
          exact ⟨rfl, rfl⟩
        · rw [if_neg h2] at hR
          subst hR
          have i4 : ¬ (24 : Int) < (S.size : Int) := by rw [hSl]; omega
          clear hSl
          go_wp2_with fail
          go_ret2
          exact ⟨rfl, rfl⟩
      · have hne : (z != 0) = true := by simpa using hz
        have HN2 : Hid (∀ j, j < i + 1 - k → (zs.drop k).getD j 0 ≠ 0) := hid (fun j hj => by
          by_cases hj2 : j < i - k
          · exact HN.out j hj2
          · obtain rfl : j = i - k := by omega
            rw [getD_drop, show k + (i - k) = i by omega, ← gz]; exact hz)
        clear gz hsrc
        go_wp2_with fail
        go_round
        case rel => exact ⟨i + 1, by omega, by omega, by go_num, HN2⟩
        case measure => simp [intOf]; omega
    · obtain rfl : i = 2048 := by omega
      have hah := ahead_none (zs.drop k) (fun j hj => HN.out j (by rw [HT.out] at hj; exact hj))
      have hR : R = (⟨#[]⟩, 14) := by rw [HR.out, told, hah, if_neg (Nat.lt_irrefl _)]
      subst hR
      clear hah HN hsrc HR
      go_wp2_with fail
      go_ret2
      exact ⟨rfl, rfl⟩

end Go.Proofs.Ytnmgapnblmikeaa
