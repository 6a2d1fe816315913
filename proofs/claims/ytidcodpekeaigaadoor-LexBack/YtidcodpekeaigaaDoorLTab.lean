/- The scanner as it lies; the byte at a place, the place behind a run of bytes, what digits come to. -/
import Derived.Test.YtidcodpekeaigaaDoorLSmall
import Derived.Test.YtidcodpekeaigaaDoorUpd
import Derived.Laws.Tables
import Derived.Deep.WholeRow
import Derived.Deep.MidRow
import Derived.Deep.RegionHeld3
namespace Go.Proofs.YtidcodpekeaigaaDoor
open Go.RowKit
set_option linter.unusedVariables false

/-- The scanner as it lies: its text, its place, its tokens. -/
def Sc (w : World) (p : Nat) (s : ByteArray) (i : Nat) (v : Value) : Prop := w.heap[p]? = some (.cells #[.string s, .int .i64 i, v] 40 (0, 0))
theorem Sc.lt {w : World} {p i : Nat} {s : ByteArray} {v : Value} (h : Sc w p s i v) : p < w.heap.size := (Array.getElem?_eq_some_iff.1 h).1
theorem Sc.upd {F : Nat → Prop} {w w' : World} {p i : Nat} {s : ByteArray} {v : Value} (h : Sc w p s i v) (u : Upd F w w') (hF : ¬ F p) : Sc w' p s i v := u.heap h hF
theorem Sc.below {B : Nat} {w w' : World} {p i : Nat} {s : ByteArray} {v : Value} (h : Sc w p s i v) (u : Below B w w') (hF : p < B) : Sc w' p s i v := by
  unfold Sc
  rw [u.block p hF]
  exact h
theorem Sc.hp {w w' : World} {p i : Nat} {s : ByteArray} {v : Value} (h : Sc w p s i v) (e : w'.heap = w.heap) : Sc w' p s i v := by
  unfold Sc
  rw [e]
  exact h
theorem Sc.tx {w : World} {p i : Nat} {s : ByteArray} {v : Value} (h : Sc w p s i v) : w.cell? ⟨p, 0, none⟩ = some (.string s) := by
  rw [cell_of_row w p 0 _ 40 (0, 0) h]; rfl
theorem Sc.pl {w : World} {p i : Nat} {s : ByteArray} {v : Value} (h : Sc w p s i v) : w.cell? ⟨p, 1, none⟩ = some (.int .i64 i) := by
  rw [cell_of_row w p 1 _ 40 (0, 0) h]; rfl
theorem Sc.tk {w : World} {p i : Nat} {s : ByteArray} {v : Value} (h : Sc w p s i v) : w.cell? ⟨p, 2, none⟩ = some v := by
  rw [cell_of_row w p 2 _ 40 (0, 0) h]; rfl
theorem Sc.fz {w : World} {p i : Nat} {s : ByteArray} {v : Value} (h : Sc w p s i v) (j : Nat) : w.frozen? ⟨p, j, none⟩ = false := by
  unfold Sc at h; simp [World.frozen?, h]
theorem Sc.setAt {w : World} {p i : Nat} {s : ByteArray} {v : Value} (h : Sc w p s i v) (j : Nat) : Sc (w.setCell ⟨p, 1, none⟩ (.int .i64 j)) p s j v := by
  unfold Sc
  rw [heap_setCell_same w p 1 _ 40 _ h]; rfl
theorem Sc.setTk {w : World} {p i : Nat} {s : ByteArray} {v : Value} (h : Sc w p s i v) (v' : Value) : Sc (w.setCell ⟨p, 2, none⟩ v') p s i v' := by
  unfold Sc
  rw [heap_setCell_same w p 2 _ 40 _ h]; rfl

/-- The byte of a text at a place, as the walk asks for it. -/
theorem index_bt (s : ByteArray) (i : Nat) (h : i < s.size) (w : World) : (Instr.index 9 (.string s) (.int .i64 i)).run Tryd.prog w = .ok (.int .u8 (bt s i)) w := by
  rw [run_index_string w 9 s .i64 i Tryd.underlying9, dif_pos ⟨by omega, by omega⟩]
  unfold bt
  rw [dif_pos h]
  rfl

set_option maxHeartbeats 1000000 in
theorem byteat_any (p i j : Nat) (s : ByteArray) (v : Value) (w : World) (h : Sc w p s i v) (hj : j < 9223372036854775808) :
    Calls Tryd.prog 37 #[.pointer (some ⟨p, 0, none⟩), .int .i64 j] w fun e w' => e = .returned (.int .u8 (bt s j)) ∧ w' = w := by
  have h0 := h.tx
  by_cases hl : j < s.size
  · have hx := index_bt s j hl
    have c1 : ¬ (s.size : Int) ≤ (j : Int) := by omega
    obtain ⟨b, gb⟩ : ∃ b, b = bt s j := ⟨_, rfl⟩
    rw [← gb] at hx ⊢
    clear gb h
    go_enter Tryd.func37, Tryd.ntmps37
    go_wp2
    go_ret
    exact ⟨rfl, rfl⟩
  · rw [bt_over hl]
    have c1 : (s.size : Int) ≤ (j : Int) := by omega
    clear h
    go_enter Tryd.func37, Tryd.ntmps37
    go_wp2
    go_ret
    exact ⟨rfl, rfl⟩

set_option maxHeartbeats 1000000 in
theorem over_any (p i : Nat) (s : ByteArray) (v : Value) (w : World) (h : Sc w p s i v) :
    Calls Tryd.prog 13 #[.pointer (some ⟨p, 0, none⟩)] w fun e w' => e = .returned (.bool (decide (s.size ≤ i))) ∧ w' = w.drew := by
  have h0 := h.tx
  have h1 := h.pl
  clear h
  go_enter Tryd.func13, Tryd.ntmps13
  go_wp2_with fail
  go_region
  go_wp2
  go_ret
  refine ⟨bool_same ?_, rfl⟩
  simp

set_option maxHeartbeats 1000000 in
theorem giveup_any (i : Int) (why : Int) (w : World) :
    Calls Tryd.prog 12 #[.int .i64 i, .int .i64 why] w fun e w' => e = .panicked [{ v := .iface 56 (.agg #[.int .i64 i, .int .i64 why]), recovered := false }] ∧ w' = w := by
  go_enter Tryd.func12, Tryd.ntmps12
  go_wp2
  exact ⟨rfl, rfl, rfl⟩

/-- A function of bytes that tells a kind. -/
def Tells (K : Nat) (f : Int → Bool) : Prop := (∀ (b : Int) (w : World), Calls Tryd.prog K #[.int .u8 b] w fun e w' => e = .returned (.bool (f b)) ∧ w' = w) ∧
  ∀ (args : Array Value) (w : World), (callFunc K args).run Tryd.prog w = .ok (.enter K args) w
theorem tells_line : Tells 22 inLn := ⟨inline_any, fun _ _ => by kernel_rfl⟩
theorem tells_text : Tells 36 inTx := ⟨intext_any, fun _ _ => by kernel_rfl⟩
theorem tells_name : Tells 40 inNm := ⟨inname_any, fun _ _ => by kernel_rfl⟩

set_option maxHeartbeats 2000000 in
theorem passw_any (p i j K : Nat) (f : Int → Bool) (hK : Tells K f) (s : ByteArray) (v : Value) (w : World) (h : Sc w p s i v) (hj : j ≤ s.size) (hs : s.size ≤ 4000) :
    Calls Tryd.prog 21 #[.pointer (some ⟨p, 0, none⟩), .int .i64 j, .func (.func K) #[] #[]] w fun e w' => e = .returned (.int .i64 (pass f s j)) ∧ w' = w := by
  have h0 := h.tx
  clear h
  obtain ⟨J, gJ⟩ : ∃ J, J = pass f s j := ⟨_, rfl⟩
  rw [← gJ]
  go_enter Tryd.func21, Tryd.ntmps21
  go_wp2_with fail
  go_loop [1] (fun k => ∃ m : Nat, k = .int .i64 m ∧ m ≤ s.size ∧ J = pass f s m) (fun k => s.size - (intOf k).toNat)
  case atStart => exact ⟨j, rfl, hj, gJ⟩
  case round =>
    obtain ⟨m, rfl, hm, hp⟩ := hrel
    by_cases hl : m < s.size
    · have hx := index_bt s m hl
      have c1 : (m : Int) < (s.size : Int) := by omega
      have k := hid (hK.1 (bt s m) w)
      have hc := hK.2
      by_cases hf : f (bt s m) = true
      · rw [hf] at k
        rw [pass_go hl hf] at hp
        obtain ⟨b, gb⟩ : ∃ b, b = bt s m := ⟨_, rfl⟩
        rw [← gb] at hx k
        clear gb hf hK gJ hj
        have HP := hid hp
        clear hp
        go_wp2_with fail
        refine k.out.mono ?_
        rintro e w1 ⟨rfl, rfl⟩
        go_wp2_with fail
        go_round
        case rel => exact ⟨m + 1, by go_num, by omega, HP.out⟩
        case measure => simp [intOf]; omega
      · have hf' : f (bt s m) = false := by simpa using hf
        rw [hf'] at k
        rw [pass_stop (fun h => hf h.2)] at hp
        obtain ⟨b, gb⟩ : ∃ b, b = bt s m := ⟨_, rfl⟩
        rw [← gb] at hx k
        clear gb hf hf' hK gJ hj
        have HP := hid hp
        clear hp
        go_wp2_with fail
        refine k.out.mono ?_
        rintro e w1 ⟨rfl, rfl⟩
        go_wp2_with fail
        go_ret
        exact ⟨by rw [HP.out]; rfl, rfl⟩
    · rw [pass_stop (fun h => hl h.1)] at hp
      have c1 : ¬ (m : Int) < (s.size : Int) := by omega
      have HP := hid hp
      clear hp gJ hK hj
      go_wp2_with fail
      go_ret
      exact ⟨by rw [HP.out]; rfl, rfl⟩

set_option maxHeartbeats 2000000 in
theorem amount_any (p i j : Nat) (base : Int) (hb : 2 ≤ base ∧ base ≤ 16) (s : ByteArray) (v : Value) (w : World) (h : Sc w p s i v) (hj : j ≤ s.size) (hs : s.size ≤ 4000) :
    Calls Tryd.prog 39 #[.pointer (some ⟨p, 0, none⟩), .int .i64 j, .int .i64 base] w fun e w' => e = .returned (.tuple #[.int .i64 (amt s base 2147483649 0 j).1, .int .i64 (amt s base 2147483649 0 j).2]) ∧ w' = w := by
  have HS := hid h
  clear h
  obtain ⟨R, gR⟩ : ∃ R, R = amt s base 2147483649 0 j := ⟨_, rfl⟩
  rw [← gR]
  go_enter Tryd.func39, Tryd.ntmps39
  go_wp2_with fail
  go_loop [1, 6] (fun k q => ∃ (m : Nat) (n : Int), k = .int .i64 m ∧ q = .int .i64 n ∧ m ≤ s.size ∧ 0 ≤ n ∧ n ≤ 2147483649 ∧ Hid (R = amt s base 2147483649 n m)) (fun k q => s.size - (intOf k).toNat)
  case atStart => exact ⟨j, 0, rfl, rfl, hj, by omega, by omega, hid gR⟩
  case round =>
    obtain ⟨m, n, rfl, rfl, hm, hn0, hn1, HP⟩ := hrel
    have k1 := hid (byteat_any p i m s v w HS.out (by omega))
    have k2 := hid (value_any (bt s m) (bt_range s m) w)
    have hv0 := val_ge (bt_range s m).1
    have hv1 := val_le (b := bt s m)
    by_cases hl : val (bt s m) < base
    · have hsz := digit_lt hb.2 hl
      have hp := HP.out
      rw [amt_go hb.2 hl] at hp
      obtain ⟨b, gb⟩ : ∃ b, b = bt s m := ⟨_, rfl⟩
      rw [← gb] at k1 k2 hl hv0 hv1 hp
      obtain ⟨d, gd⟩ : ∃ d, d = val b := ⟨_, rfl⟩
      rw [← gd] at k2 hl hv0 hv1 hp
      have d0 : 0 ≤ n * base := Int.mul_nonneg hn0 (by omega)
      have d1 : n * base ≤ 2147483649 * 16 := Int.mul_le_mul hn1 hb.2 (by omega) (by omega)
      have k3 := k1
      have k4 := k2
      have GD := hid gd
      have hmin : min (n * base + d) 2147483649 = if 2147483649 < n * base + d then 2147483649 else n * base + d := by split <;> omega
      have hmm : 0 ≤ min (n * base + d) 2147483649 ∧ min (n * base + d) 2147483649 ≤ 2147483649 := ⟨by omega, Int.min_le_right _ _⟩
      rw [hmin] at hmm hp
      have HM := hid hmm
      have HQ := hid hp
      clear hmin hmm
      have c1 : IntKind.i64.wrap (n * base) = n * base := by rw [IntKind.wrap_i64]; omega
      have c2 : IntKind.i64.wrap (n * base + d) = n * base + d := by rw [IntKind.wrap_i64]; omega
      clear gb gd hp
      go_wp2_with fail
      refine k1.out.mono ?_
      rintro e w1 ⟨rfl, rfl⟩
      go_wp2_with fail
      refine k2.out.mono ?_
      rintro e w1 ⟨rfl, rfl⟩
      go_wp2_with fail
      refine k3.out.mono ?_
      rintro e w1 ⟨rfl, rfl⟩
      go_wp2_with fail
      refine k4.out.mono ?_
      rintro e w1 ⟨rfl, rfl⟩
      go_wp2_with fail
      go_round
      case rel => exact ⟨m + 1, _, by go_num, rfl, by omega, HM.out.1, HM.out.2, HQ⟩
      case measure => simp [intOf]; omega
    · have hp := HP.out
      rw [amt_stop hl] at hp
      obtain ⟨b, gb⟩ : ∃ b, b = bt s m := ⟨_, rfl⟩
      rw [← gb] at k1 k2 hl hv0 hv1
      obtain ⟨d, gd⟩ : ∃ d, d = val b := ⟨_, rfl⟩
      rw [← gd] at k2 hl hv0 hv1
      have HQ := hid hp
      clear gb gd hp
      go_wp2_with fail
      refine k1.out.mono ?_
      rintro e w1 ⟨rfl, rfl⟩
      go_wp2_with fail
      refine k2.out.mono ?_
      rintro e w1 ⟨rfl, rfl⟩
      go_wp2_with fail
      go_ret2
      exact ⟨by rw [HQ.out]; rfl, rfl⟩

end Go.Proofs.YtidcodpekeaigaaDoor
