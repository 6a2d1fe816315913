/- What mem.Space.Path does: the bytes ahead of the first nought, or the error. -/
import Derived.Test.YtnmgapnblmikeaaSpc2
import Derived.Test.YtnmgapnblmikeaaEqual
import Derived.Lib.Bytealg
import Derived.Lib.BytesEntry
import Derived.Lib.Bytes
import Derived.Laws.Externs
namespace Go.Proofs.Ytnmgapnblmikeaa
open Go.RowKit Lend
set_option linter.unusedVariables false

/-- How many bytes stand ahead of the first nought (all of them, if there is none). -/
def ahead : List Int → Nat
  | [] => 0
  | z :: r => if z = 0 then 0 else ahead r + 1
theorem ahead_le : ∀ zs : List Int, ahead zs ≤ zs.length
  | [] => Nat.le_refl _
  | z :: r => by
    have := ahead_le r
    unfold ahead
    split <;> simp <;> omega
theorem ahead_ne : ∀ (zs : List Int) (j : Nat), j < ahead zs → zs.getD j 0 ≠ 0
  | [], j, h => by simp [ahead] at h
  | z :: r, j, h => by
    unfold ahead at h
    split at h
    · omega
    · cases j with
      | zero => simpa using ‹¬ z = 0›
      | succ j => simpa using ahead_ne r j (by omega)
theorem ahead_at : ∀ (zs : List Int), ahead zs < zs.length → zs.getD (ahead zs) 0 = 0
  | [], h => by simp at h
  | z :: r, h => by
    unfold ahead at h ⊢
    split at h
    · rename_i hz; simp [hz]
    · rename_i hz; simp [hz]; simpa using ahead_at r (by simpa using h)
theorem ahead_uniq (zs : List Int) (j : Nat) (hj : j < zs.length) (h0 : zs.getD j 0 = 0) (h1 : ∀ i, i < j → zs.getD i 0 ≠ 0) : ahead zs = j := by
  rcases Nat.lt_trichotomy (ahead zs) j with h | h | h
  · exact absurd (ahead_at zs (by omega)) (h1 _ h)
  · exact h
  · exact absurd h0 (ahead_ne zs j h)
theorem ahead_none (zs : List Int) (h1 : ∀ i, i < zs.length → zs.getD i 0 ≠ 0) : ahead zs = zs.length := by
  rcases Nat.lt_or_ge (ahead zs) zs.length with h | h
  · exact absurd (ahead_at zs h) (h1 _ h)
  · have := ahead_le zs; omega

theorem index_ahead : ∀ {zs : List Int}, Bytes zs → Lib.indexByte (Lib.bytesOf zs) 0 = if ahead zs < zs.length then (ahead zs : Int) else -1
  | [], _ => rfl
  | z :: r, h => by
    have hz := h z (by simp)
    have ih := index_ahead (zs := r) (fun y hy => h y (by simp [hy]))
    have hle := ahead_le r
    have hb : Lib.bytesOf (z :: r) = z.toNat.toUInt8 :: Lib.bytesOf r := rfl
    rw [hb, Lib.indexByte, ih]
    by_cases h0 : z = 0
    · subst h0; simp [ahead]
    · have hne : (z.toNat.toUInt8 == 0) = false := by
        have : ∀ a : Fin 256, a.val ≠ 0 → (a.val.toUInt8 == 0) = false := by decide +kernel
        exact this ⟨z.toNat, by omega⟩ (by simp; omega)
      simp only [hne, Bool.false_eq_true, if_false, ahead, h0, List.length_cons]
      by_cases hl : ahead r < r.length
      · rw [if_pos hl, if_neg (by simp), if_pos (by omega)]; omega
      · rw [if_neg hl, if_pos (by simp), if_neg (by omega)]

set_option maxHeartbeats 1000000 in
theorem indexbyte_any (b o n c : Nat) (zs : List Int) (w : World) (hs : Src w (some ⟨b, o, none⟩) n zs) (hb : Bytes zs) :
    Calls Try.prog 32 #[.slice (some ⟨b, o, none⟩) n c, .int .u8 0] w fun e w' => e = .returned (.int .i64 (if ahead zs < zs.length then (ahead zs : Int) else -1)) ∧ w' = w := by
  have hrun := Lib.run_indexByteSlice (P := Try.prog) w b o n c zs hs.1 (fun i hi => by
    obtain ⟨b', o', e, _, hc⟩ := hs.2 (by omega)
    injection e with e; injection e with e1 e2; subst e1; subst e2
    exact hc i hi) 0
  rw [show ((0 : Int).toNat.toUInt8) = 0 by rfl, index_ahead hb] at hrun
  obtain ⟨X, gX⟩ : ∃ X : Int, X = if ahead zs < zs.length then (ahead zs : Int) else -1 := ⟨_, rfl⟩
  rw [← gX] at hrun ⊢
  clear gX hs hb
  go_enter Try.func32, Try.ntmps32
  go_wp2
  rw [run_callFunc_extern Try.func34 (by kernel_rfl) (by kernel_rfl) (by kernel_rfl) (e := Extern.BytealgIndexByte.indexByte) (by kernel_rfl), hrun]
  simp only [Result.andThen]
  rw [Oper.upon_value]
  go_wp2
  go_ret
  exact ⟨rfl, rfl⟩

/-- What Path tells of the bytes from there on. -/
def told (T : List Int) : ByteArray × Int := if ahead T < T.length then (if 24 < ahead T then (⟨#[]⟩, 36) else (strOfNums (T.take (ahead T)), 0)) else (⟨#[]⟩, 14)

set_option maxHeartbeats 1000000 in
theorem mpath_no (p : Nat) (addr : Int) (zs : List Int) (w : World) (h : Spc w p zs) (h0 : -9223372036854775808 ≤ addr) (h1 : addr ≤ 9223372036854775807) (hp : isPart addr 1 = false) :
    Calls Try.prog 20 #[.pointer (some ⟨p, 0, none⟩), .int .i64 addr] w fun e w' => e = .returned (.tuple #[.string ⟨#[]⟩, .int .i64 14]) ∧ w' = w := by
  have k1 := hid (usable_yes p w h.head)
  have k2 := hid (ispart_any addr 1 w h0 h1)
  rw [hp] at k2
  clear h hp
  go_enter Try.func20, Try.ntmps20
  go_wp2_with fail
  refine k1.out.mono ?_
  rintro e w1 ⟨rfl, rfl⟩
  go_wp2_with fail
  refine k2.out.mono ?_
  rintro e w1 ⟨rfl, rfl⟩
  go_wp2_with fail
  go_ret2
  exact ⟨rfl, rfl⟩

set_option maxHeartbeats 1000000 in
theorem mpath_yes (p k : Nat) (addr : Int) (zs : List Int) (w : World) (h : Spc w p zs) (ha : addr = 4096 + (k : Int)) (hk : k < 2048) :
    Calls Try.prog 20 #[.pointer (some ⟨p, 0, none⟩), .int .i64 addr] w fun e w' => e = .returned (.tuple #[.string (told (zs.drop k)).1, .int .i64 (told (zs.drop k)).2]) ∧ w' = w := by
  have k1 := hid (usable_yes p w h.head)
  have k2 := hid (ispart_any addr 1 w (by omega) (by omega))
  have hp : isPart addr 1 = true := by simp [isPart]; omega
  rw [hp] at k2
  have k3 := hid (from_any p k addr w ha (by omega))
  have hT : (zs.drop k).length = 2048 - k := by rw [List.length_drop, h.len]
  have hs := h.src k (2048 - k) (1 + k) (by omega) (fun _ => rfl)
  rw [List.take_of_length_le (by rw [hT]; exact Nat.le_refl _)] at hs
  have k4 := hid (indexbyte_any p (1 + k) (2048 - k) (2048 - k) (zs.drop k) w hs (h.bytes.drop k))
  have hle := ahead_le (zs.drop k)
  have hsrc := hid (fun m (hm : m ≤ 2048 - k) => (show Src w (some ⟨p, 1 + k, none⟩) m ((zs.drop k).take m) from h.src k m (1 + k) (by omega) (fun _ => rfl)).convert (P := Try.prog) (2048 - k) 27 5 9 Try.underlying27 Try.underlying5 Try.underlying9)
  unfold told
  rw [hT] at k4 hle ⊢
  obtain ⟨m, gm⟩ : ∃ m, m = ahead (zs.drop k) := ⟨_, rfl⟩
  rw [← gm] at k4 hle ⊢
  obtain ⟨T, gT⟩ : ∃ T, T = zs.drop k := ⟨_, rfl⟩
  rw [← gT] at hsrc ⊢
  clear h ha hp hT hs gm gT
  by_cases h1 : m < 2048 - k
  · rw [if_pos h1] at k4 ⊢
    by_cases h2 : 24 < m
    · rw [if_pos h2]
      have i2 : (24 : Int) < (m : Int) := by omega
      have i3 : ¬ ((m : Int) < 0) := by omega
      go_enter Try.func20, Try.ntmps20
      go_wp2_with fail
      refine k1.out.mono ?_
      rintro e w1 ⟨rfl, rfl⟩
      go_wp2_with fail
      refine k2.out.mono ?_
      rintro e w1 ⟨rfl, rfl⟩
      go_wp2_with fail
      refine k3.out.mono ?_
      rintro e w1 ⟨o, rfl, ho, rfl⟩
      obtain rfl := ho hk
      go_wp2_with fail
      refine k4.out.mono ?_
      rintro e w1 ⟨rfl, rfl⟩
      go_wp2_with fail
      go_ret2
      exact ⟨rfl, rfl⟩
    · rw [if_neg h2]
      have i2 : ¬ ((24 : Int) < (m : Int)) := by omega
      have i3 : ¬ ((m : Int) < 0) := by omega
      have i4 : (0 : Int) ≤ (m : Int) := by omega
      have i5 : (m : Int) ≤ ((2048 - k : Nat) : Int) := by omega
      have hcv := hsrc.out m (by omega)
      obtain ⟨S, gS⟩ : ∃ S, S = strOfNums (T.take m) := ⟨_, rfl⟩
      rw [← gS] at hcv ⊢
      clear gS hsrc
      go_enter Try.func20, Try.ntmps20
      go_wp2_with fail
      refine k1.out.mono ?_
      rintro e w1 ⟨rfl, rfl⟩
      go_wp2_with fail
      refine k2.out.mono ?_
      rintro e w1 ⟨rfl, rfl⟩
      go_wp2_with fail
      refine k3.out.mono ?_
      rintro e w1 ⟨o, rfl, ho, rfl⟩
      obtain rfl := ho hk
      go_wp2_with fail
      refine k4.out.mono ?_
      rintro e w1 ⟨rfl, rfl⟩
      go_wp2_with fail
      go_ret2
      exact ⟨rfl, rfl⟩
  · rw [if_neg h1] at k4 ⊢
    go_enter Try.func20, Try.ntmps20
    go_wp2_with fail
    refine k1.out.mono ?_
    rintro e w1 ⟨rfl, rfl⟩
    go_wp2_with fail
    refine k2.out.mono ?_
    rintro e w1 ⟨rfl, rfl⟩
    go_wp2_with fail
    refine k3.out.mono ?_
    rintro e w1 ⟨o, rfl, ho, rfl⟩
    obtain rfl := ho hk
    go_wp2_with fail
    refine k4.out.mono ?_
    rintro e w1 ⟨rfl, rfl⟩
    go_wp2_with fail
    go_ret2
    exact ⟨rfl, rfl⟩

end Go.Proofs.Ytnmgapnblmikeaa
