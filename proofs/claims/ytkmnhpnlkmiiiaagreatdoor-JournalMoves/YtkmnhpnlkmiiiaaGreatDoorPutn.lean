/- What wire.putNumber does, for every number and every row of its caller's own with room for nine bytes more: the number's bytes stand behind; nothing else turns. -/
import Derived.Test.YtkmnhpnlkmiiiaaGreatDoorRoom
import Derived.Test.YtkmnhpnlkmiiiaaGreatDoorNum
namespace Go.Proofs.YtkmnhpnlkmiiiaaGreatDoor
open Go.RowKit Num
set_option maxRecDepth 20000

theorem div_pow (n j : Nat) : (n : Int) / 2 ^ (7 * j) = ((n / 128 ^ j : Nat) : Int) := by
  rw [Int.pow_mul]; simp
theorem or_128 (x : Nat) : bits BinOp.or IntKind.u8 ((x : Int) % 256) 128 = ((x % 128 + 128 : Nat) : Int) := by
  have h : ∀ a : Fin 256, bits BinOp.or IntKind.u8 (a.val : Int) 128 = ((a.val % 128 + 128 : Nat) : Int) := by decide +kernel
  have := h ⟨x % 256, Nat.mod_lt _ (by omega)⟩
  simp only at this
  rw [show (x : Int) % 256 = ((x % 256 : Nat) : Int) by omega, this]
  omega
theorem and_127 (x : Nat) : bits BinOp.and IntKind.u8 ((x : Int) % 256) 127 = ((x % 128 : Nat) : Int) := by
  have h : ∀ a : Fin 256, bits BinOp.and IntKind.u8 (a.val : Int) 127 = ((a.val % 128 : Nat) : Int) := by decide +kernel
  have := h ⟨x % 256, Nat.mod_lt _ (by omega)⟩
  simp only at this
  rw [show (x : Int) % 256 = ((x % 256 : Nat) : Int) by omega, this]
  omega
/-- One byte more in a row with room. -/
theorem own_snoc {w' : World} {B g k cap : Nat} {xs T : List Int} (y z : Int) (hy : y = z) (h : w'.ownsRow B 5 1 (.slice (some ⟨g, 0, none⟩) (k + 1) cap) (k + 1) (xs.map (Value.int .u8) ++ (T.map (Value.int .u8) ++ [.int .u8 y]))) : w'.ownsRow B 5 1 (.slice (some ⟨g, 0, none⟩) (k + 1) cap) (k + 1) ((xs ++ T ++ [z]).map (Value.int .u8)) := by
  subst hy; simpa using h

set_option maxHeartbeats 400000 in
theorem putn_any (B g k cap n : Nat) (xs : List Int) (w : World) (hown : w.ownsRow B 5 1 (.slice (some ⟨g, 0, none⟩) k cap) k (xs.map (Value.int .u8))) (hroom : k + 9 ≤ cap) (hn : n < 9223372036854775808) :
    Calls Tryz.prog 84 #[.slice (some ⟨g, 0, none⟩) k cap, .int .i64 n] w fun e w' => e = .returned (.slice (some ⟨g, 0, none⟩) (k + (enc n).length) cap) ∧
      w'.ownsRow B 5 1 (.slice (some ⟨g, 0, none⟩) (k + (enc n).length) cap) (k + (enc n).length) ((xs ++ enc n).map (Value.int .u8)) ∧ Below B w w' := by
  obtain ⟨c, hc⟩ : ∃ c, c = cnt 9 n := ⟨_, rfl⟩
  have hc8 : c ≤ 8 := by rw [hc]; exact cnt_8 n hn
  obtain ⟨i0, hi, hz0, hz1, hz2⟩ := info_parts Tryz.info5
  have HC := hid hc
  have HO := hid hown
  clear hc hown
  go_enter Tryz.func84, Tryz.ntmps84
  go_wp2
  go_loop [5] (fun s => ∃ j : Nat, j ≤ c ∧ s = .int .i64 ((7 * j : Nat) : Int)) (fun s => 7 * c - (intOf s).toNat)
  case atStart => exact ⟨0, Nat.zero_le _, rfl⟩
  case round =>
    obtain ⟨j, hj, rfl⟩ := hrel
    by_cases hgt : 127 < n / 128 ^ j
    · have hjc : j < c := by rw [HC.out]; exact cnt_of_gt n j hn hgt
      have hd : (127 : Int) < (n : Int) / 2 ^ (7 * j) := by rw [div_pow]; omega
      go_wp2_with fail
      go_round
      case rel => exact ⟨j + 1, by omega, by go_num⟩
      case measure => simp [intOf]; omega
    · have hjc : j = c := by
        have := cnt_of_le n j (by omega)
        rw [← HC.out] at this
        omega
      have hd : (n : Int) / 2 ^ (7 * j) ≤ 127 := by rw [div_pow]; omega
      have hd' : decide ((127 : Int) < (n : Int) / 2 ^ (7 * j)) = false := by simp; omega
      subst hjc
      clear hgt
      go_wp2_with fail
      have hlt := (HO.out.lt g rfl)
      go_loopw [0, 5] (fun v s wr => ∃ (i t : Nat) (T : List Int), i ≤ j ∧ t ≤ 8 ∧ s = .int .i64 ((7 * i : Nat) : Int) ∧ Hid (T.length = t ∧ t + i = j) ∧ Hid (T ++ Num.hi n i = Num.hi n j) ∧ v = .slice (some ⟨g, 0, none⟩) (k + t) cap ∧ Hid (wr.ownsRow B 5 1 (.slice (some ⟨g, 0, none⟩) (k + t) cap) (k + t) ((xs ++ T).map (Value.int .u8))) ∧ Below B w wr) (fun _ s _ => (intOf s).toNat)
      case atStart => exact ⟨j, 0, [], Nat.le_refl _, by omega, rfl, ⟨rfl, by omega⟩, rfl, rfl, hid (by simpa using HO.out), Below.refl _ _⟩
      case round =>
        obtain ⟨i, t, T, hij, ht8, rfl, HT, HH, rfl, HW, hb⟩ := hrel
        clear hd hd'
        have hsz := hb.size
        have hBr : B ≤ wr.heap.size := by omega
        by_cases hi0 : i = 0
        · subst hi0
          go_wp2_with (at_builtin; go_must (refine wpList_append_fits _ rfl (.tmp 24) (.tmp 28) 29 rfl B 5 i0 1 Tryz.underlying29 hi hz1 g (k + t) cap ((xs ++ T).map (Value.int .u8)) rfl (HW.out.alloc _) ⟨wr.heap.size, 0, none⟩ 1 1 [.int .u8 (bits BinOp.and IntKind.u8 ((n : Int) % 256) 127)] rfl rfl (cell_one_new _ _ _) (by simp [Value.oneCell']) (by omega) ?_))
          intro w1 hown1 hgrow1
          have R := own_snoc _ _ (and_127 n) hown1
          have hb1 := (hb.alloc hBr (.cells #[Value.int .u8 (bits BinOp.and IntKind.u8 ((n : Int) % 256) 127)] 5)).grown hgrow1 (by simp; omega) (by intro q hq; simp at hq; omega)
          clear hown1 hgrow1
          go_wp2_with fail
          go_ret
          have hT := HT.out
          have he : xs ++ T ++ [((n % 128 : Nat) : Int)] = xs ++ enc n := by
            have := HH.out
            simp only [Num.hi, List.append_nil] at this
            rw [this, enc, ← HC.out, List.append_assoc]
          have hl : k + t + 1 = k + (enc n).length := by rw [length_enc, ← HC.out]; omega
          rw [he, hl] at R
          exact ⟨by rw [← hl]; rfl, R, hb1⟩
        · obtain ⟨i, rfl⟩ : ∃ q, i = q + 1 := ⟨i - 1, by omega⟩
          have hT := HT.out
          have htj : t + 1 ≤ 8 := by omega
          clear hT
          go_wp2_with (at_builtin; refine wpList_append_fits _ rfl (.tmp 16) (.tmp 22) 29 rfl B 5 i0 1 Tryz.underlying29 hi hz1 g (k + t) cap ((xs ++ T).map (Value.int .u8)) rfl (HW.out.alloc _) ⟨wr.heap.size, 0, none⟩ 1 1 [.int .u8 (bits BinOp.or IntKind.u8 ((n : Int) / 2 ^ (7 * (i + 1)) % 256) 128)] rfl rfl (cell_one_new _ _ _) (by simp [Value.oneCell']) (by omega) ?_)
          intro w1 hown1 hgrow1
          have R := own_snoc (bits BinOp.or IntKind.u8 ((n : Int) / 2 ^ (7 * (i + 1)) % 256) 128) ((n / 128 ^ (i + 1) % 128 + 128 : Nat) : Int) (by rw [div_pow]; exact or_128 _) hown1
          have hb1 := (hb.alloc hBr (.cells #[Value.int .u8 (bits BinOp.or IntKind.u8 ((n : Int) / 2 ^ (7 * (i + 1)) % 256) 128)] 5)).grown hgrow1 (by simp; omega) (by intro q hq; simp at hq; omega)
          have HR := hid R
          clear hown1 hgrow1 R
          go_wp2_with fail
          go_roundw
          case rel => 
            have hT := HT.out
            refine ⟨i, t + 1, T ++ [((n / 128 ^ (i + 1) % 128 + 128 : Nat) : Int)], by omega, by omega, by go_num, ⟨by simp; omega, by omega⟩, ?_, rfl, ?_, hb1⟩
            · have := HH.out
              show _ = _
              rw [← this]
              simp [Num.hi]
            · have := HR.out
              rw [← List.append_assoc]
              exact this
          case measure => simp [intOf]; omega

end Go.Proofs.YtkmnhpnlkmiiiaaGreatDoor
