/- A number's decimal digits, as the document makes them; the law of numbers. -/
import Derived.Test.YtidcodpekeaigaaLDigits
import Derived.Laws.BytesArg
namespace Go.Proofs.Ytidcodpekeaigaa
open Go.RowKit
set_option linter.unusedVariables false

/-- One byte ahead of others. -/
theorem cons_app (b : UInt8) (l : List UInt8) : ByteArray.mk #[b] ++ ByteArray.mk l.toArray = ByteArray.mk (b :: l).toArray := by
  apply ByteArray.ext
  apply Array.toList_inj.1
  rw [app_list]
  rfl

/-- A byte, turned into a text. -/
theorem convert_byte (w : World) (x : Int) (h : 0 ≤ x ∧ x ≤ 255) :
    (convert 51 9 (.slice (some ⟨w.heap.size, 0, none⟩) 1 1)).run Try.prog (w.alloc (.cells #[.int .u8 x] 5)) = .ok (.string ⟨#[UInt8.ofNat x.toNat]⟩) (w.alloc (.cells #[.int .u8 x] 5)) := by
  have hc : ∀ j, j < 1 → (w.alloc (.cells #[.int .u8 x] 5)).cell? ⟨w.heap.size, 0 + j, none⟩ = some (.int .u8 (List.getD [x] j 0)) := fun j hj => by
    obtain rfl : j = 0 := by omega
    exact heap_cells (heap_alloc_new w _) 0 _ rfl
  exact run_convert_bytes_arg (P := Try.prog) (w.alloc (.cells #[.int .u8 x] 5)) 51 5 Try.underlying51 Try.underlying5 w.heap.size 0 1 1 [x] rfl hc 9 Try.underlying9

theorem hd_dec {r : Nat} (h : r < 10) : UInt8.ofNat ((48 + (r : Int)).toNat) = hd r := by
  unfold hd
  rw [if_pos h]
  congr 1

set_option maxHeartbeats 4000000 in
theorem dec_pos (N : Int) (hN : 0 ≤ N ∧ N ≤ 2147483648) (w : World) :
    Calls Try.prog 13 #[.int .i64 N] w fun e w' => ∃ l : List UInt8, e = .returned (.string ⟨l.toArray⟩) ∧ (AllDig 10 l ∧ worth 10 0 l = N ∧ 0 < l.length ∧ l.length ≤ 32) ∧ Below w.heap.size w w' := by
  have c1 : ¬ N = -9223372036854775808 := by omega
  have c2 : ¬ N < 0 := by omega
  go_enter Try.func13, Try.ntmps13
  go_wp2_with fail
  go_loopw [0, 3] (fun k q wr => ∃ (m : Int) (l : List UInt8), k = .int .i64 m ∧ q = .string ⟨l.toArray⟩ ∧ 0 ≤ m ∧ m ≤ 2147483648 ∧ Hid (Digs 10 N m l ∧ l.length ≤ 32) ∧ Hid (Below w.heap.size w wr)) (fun k q _ => (intOf k).toNat + (match q with | .string s => if s.size = 0 then 1 else 0 | _ => 0))
  case atStart => exact ⟨N, [], rfl, rfl, hN.1, hN.2, hid ⟨Digs.start hN, Nat.zero_le _⟩, hid (Below.refl _ _)⟩
  case round =>
    obtain ⟨m, l, rfl, rfl, hm0, hm1, HD, HB⟩ := hrel
    by_cases hm : 0 < m
    · have hlen := HD.out.1.len hm
      obtain ⟨r, gr⟩ : ∃ r : Nat, (r : Int) = m % 10 := ⟨(m % 10).toNat, by omega⟩
      have g1 : m.tmod 10 = (r : Int) := by rw [Int.tmod_eq_emod_of_nonneg hm0, gr]
      obtain ⟨q, gq⟩ : ∃ q : Int, q = m / 10 := ⟨_, rfl⟩
      have g2 : m.tdiv 10 = q := by rw [Int.tdiv_eq_ediv_of_nonneg hm0, gq]
      have hr10 : r < 10 := by omega
      have HN : Hid (Digs 10 N q (hd r :: l)) := hid (by rw [gq]; exact HD.out.1.next (by omega) r gr)
      have g3 : IntKind.i64.wrap (48 + (r : Int)) = 48 + (r : Int) := by rw [IntKind.wrap_i64]; omega
      have g4 : IntKind.u8.wrap (48 + (r : Int)) = 48 + (r : Int) := by simp [IntKind.wrap, IntKind.bits, IntKind.signed]; omega
      have hcv := convert_byte wr (48 + (r : Int)) (by omega)
      rw [hd_dec hr10] at hcv
      have hq0 : 0 ≤ q ∧ q ≤ 2147483648 := by omega
      have hcat := cons_app (hd r) l
      have hqm : q < m := by omega
      clear gr gq
      go_wp2_with fail
      go_roundw
      case rel => exact ⟨q, hd r :: l, rfl, rfl, hq0.1, hq0.2, hid ⟨HN.out, by simp; omega⟩, hid (HB.out.trans ((below_one _ _).mono HB.out.size))⟩
      case measure =>
        have z1 : (ByteArray.mk (hd r :: l).toArray).size = l.length + 1 := by rw [← list_len]; simp
        have z2 : (ByteArray.mk l.toArray).size = l.length := by rw [← list_len]
        simp only [intOf, z1, z2]
        rw [if_neg (by omega)]
        split <;> omega
    · obtain rfl : m = 0 := by omega
      by_cases hl : l = []
      · subst hl
        have HN : Hid (Digs 10 N 0 [hd 0]) := hid (by have h := HD.out.1.next (by omega) 0 (by omega); simpa using h)
        have hcv := convert_byte wr 48 (by omega)
        rw [show UInt8.ofNat (48 : Int).toNat = hd 0 from rfl] at hcv
        have hcat : ByteArray.mk #[hd 0] ++ ByteArray.mk #[] = ByteArray.mk #[hd 0] := cons_app (hd 0) []
        go_wp2_with fail
        go_roundw
        case rel => exact ⟨0, [hd 0], rfl, rfl, by omega, by omega, hid ⟨HN.out, by simp⟩, hid (HB.out.trans ((below_one _ _).mono HB.out.size))⟩
        case measure => decide
      · have m4 : ((ByteArray.mk l.toArray).toList == []) = false := by
          rw [ByteArray.toList_eq]
          cases l with
          | nil => exact absurd rfl hl
          | cons x r => rfl
        have m5 : (l == []) = false := by
          cases l with
          | nil => exact absurd rfl hl
          | cons x r => rfl
        have m6 : l.isEmpty = false := by
          cases l with
          | nil => exact absurd rfl hl
          | cons x r => rfl
        have hpos : 0 < l.length := by
          cases l with
          | nil => exact absurd rfl hl
          | cons x r => simp
        clear hl
        go_wp2_with fail
        go_ret
        exact ⟨l, rfl, ⟨HD.out.1.dig, HD.out.1.done, hpos, HD.out.2⟩, HB.out⟩

set_option maxHeartbeats 4000000 in
theorem dec_neg (N : Int) (hN : 0 < N ∧ N ≤ 2147483648) (w : World) :
    Calls Try.prog 13 #[.int .i64 (- N)] w fun e w' => ∃ l : List UInt8, e = .returned (.string (⟨#[45]⟩ ++ ⟨l.toArray⟩)) ∧ (AllDig 10 l ∧ worth 10 0 l = N ∧ 0 < l.length ∧ l.length ≤ 32) ∧ Below w.heap.size w w' := by
  have k1 := hid (dec_pos N (by omega) w)
  obtain ⟨M, gM⟩ : ∃ M, M = - N := ⟨_, rfl⟩
  rw [← gM]
  have c1 : ¬ M = -9223372036854775808 := by omega
  have c2 : M < 0 := by omega
  have c3 : - M = N := by omega
  have c4 : IntKind.i64.wrap N = N := by rw [IntKind.wrap_i64]; omega
  clear gM
  go_enter Try.func13, Try.ntmps13
  go_wp2_with fail
  refine k1.out.mono ?_
  rintro e w1 ⟨l, rfl, hl, hb⟩
  have HB := hid hb
  have HL := hid hl
  have z1 : (ByteArray.mk l.toArray).size = l.length := by rw [← list_len]
  have c5 : (ByteArray.mk l.toArray).size ≤ 32 := by rw [z1]; exact hl.2.2.2
  have hadd : ∀ W : World, (Op.stringOp .add ⟨#[45]⟩ ⟨l.toArray⟩).run Try.prog W = .ok (.string (⟨#[45]⟩ ++ ⟨l.toArray⟩)) W := fun W => run_string_add_sum W _ _ (by rw [z1]; have : (ByteArray.mk #[45]).size = 1 := rfl; omega)
  clear hb hl z1
  go_wp2_with fail
  go_ret
  exact ⟨l, rfl, HL.out, HB.out⟩

end Go.Proofs.Ytidcodpekeaigaa
