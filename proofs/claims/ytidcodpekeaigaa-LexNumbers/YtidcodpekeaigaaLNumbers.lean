/- The law of numbers. -/
import Derived.Test.YtidcodpekeaigaaLNumb
import Derived.Deep.Cut
import Derived.Deep.CutRange
namespace Go.Proofs.Ytidcodpekeaigaa
open Go.RowKit
set_option linter.unusedVariables false

/-- A text that is a number's: it is scanned as it. -/
def NumTx (S : ByteArray) (M : Int) : Prop := scanR S = .toks [⟨2, 0, S, M⟩] ∧ S.size ≤ 40

theorem dec_any (M : Int) (hM : -2147483648 ≤ M ∧ M ≤ 2147483648) (w : World) :
    Calls Try.prog 13 #[.int .i64 M] w fun e w' => ∃ S : ByteArray, e = .returned (.string S) ∧ NumTx S M ∧ Below w.heap.size w w' := by
  by_cases h : M < 0
  · have k := dec_neg (- M) (by omega) w
    rw [Int.neg_neg] at k
    refine k.mono ?_
    rintro e w' ⟨l, rfl, ⟨h1, h2, h3, h4⟩, hb⟩
    refine ⟨_, rfl, ⟨?_, ?_⟩, hb⟩
    · have := (scan_dec h1 h2 (by omega) h3 h4).2
      rw [Int.neg_neg] at this
      exact this
    · rw [size_app, show (ByteArray.mk l.toArray).size = l.length by rw [← list_len]]
      have : (ByteArray.mk #[45]).size = 1 := rfl
      omega
  · refine (dec_pos M (by omega) w).mono ?_
    rintro e w' ⟨l, rfl, ⟨h1, h2, h3, h4⟩, hb⟩
    refine ⟨_, rfl, ⟨(scan_dec h1 h2 (by omega) h3 h4).1, ?_⟩, hb⟩
    rw [show (ByteArray.mk l.toArray).size = l.length by rw [← list_len]]
    omega

theorem hex_list : ∀ r, r < 16 → (([48, 49, 50, 51, 52, 53, 54, 55, 56, 57, 97, 98, 99, 100, 101, 102] : List UInt8).drop r).take 1 = [hd r] := by decide
theorem hex_at (r : Nat) (h : r < 16) : (ByteArray.mk #[48, 49, 50, 51, 52, 53, 54, 55, 56, 57, 97, 98, 99, 100, 101, 102]).extract r (r + 1) = ⟨#[hd r]⟩ := by
  apply ByteArray.ext
  apply Array.toList_inj.1
  rw [ByteArray.data_extract, Array.toList_extract, List.extract_eq_take_drop, show r + 1 - r = 1 by omega]
  exact hex_list r h

set_option maxRecDepth 100000 in
set_option maxHeartbeats 8000000 in
theorem lexnumbers_any (n : Int) (hx : Bool) (w : World) (hn : -9223372036854775808 ≤ n ∧ n ≤ 9223372036854775807) :
    Calls Try.prog 6 #[.int .i64 n, .bool hx] w fun e w' => e = .returned (.bool true) ∧ Below w.heap.size w w' := by
  obtain ⟨M, gM⟩ : ∃ M, n.tmod 2147483649 = M := ⟨_, rfl⟩
  have hM : -2147483648 ≤ M ∧ M ≤ 2147483648 := by
    rw [← gM]
    have h1 := Int.tmod_lt_of_pos n (show (0 : Int) < 2147483649 by omega)
    have h2 := Int.lt_tmod_of_pos n (show (0 : Int) < 2147483649 by omega)
    omega
  have k1 := hid (dec_any M hM w)
  go_enter Try.func6, Try.ntmps6
  go_upto_if 13 with (go_at_call 13; refine k1.out.mono ?_; rintro e w1 ⟨S, rfl, hS, hb⟩; have HS := hid hS; have HB := hid hb; clear hS hb)
  go_cut [5] from 6 (fun s5 wx => ∃ S, s5 = .string S ∧ Hid (NumTx S M) ∧ Hid (Below w.heap.size w wx))
  case first =>
    cases hx
    · go_wp2_with fail
      go_meet
      case rel => exact ⟨S, rfl, HS, HB⟩
    · by_cases hm : M < 0
      · have c7 : IntKind.i64.wrap (- M) = - M := by rw [IntKind.wrap_i64]; omega
        have c8 : M < - M := by omega
        go_wp2_with fail
        go_loop [6, 5] (fun k q => ∃ (m : Int) (l : List UInt8), k = .int .i64 m ∧ q = .string ⟨l.toArray⟩ ∧ 0 ≤ m ∧ m ≤ 2147483648 ∧ Hid (Digs 16 (- M) m l ∧ l.length ≤ 32)) (fun k q => (intOf k).toNat + (match q with | .string s => if s.size = 0 then 1 else 0 | _ => 0))
        case atStart => exact ⟨- M, [], rfl, rfl, by omega, by omega, hid ⟨Digs.start (by omega), Nat.zero_le _⟩⟩
        case round =>
          obtain ⟨m, l, rfl, rfl, hm0, hm1, HD⟩ := hrel
          by_cases hm : 0 < m
          · have hlen := HD.out.1.len hm
            obtain ⟨r, gr⟩ : ∃ r : Nat, (r : Int) = m % 16 := ⟨(m % 16).toNat, by omega⟩
            have g1 : m.tmod 16 = (r : Int) := by rw [Int.tmod_eq_emod_of_nonneg hm0, gr]
            obtain ⟨q, gq⟩ : ∃ q : Int, q = m / 16 := ⟨_, rfl⟩
            have g2 : m.tdiv 16 = q := by rw [Int.tdiv_eq_ediv_of_nonneg hm0, gq]
            have hr16 : r < 16 := by omega
            have HN : Hid (Digs 16 (- M) q (hd r :: l)) := hid (by rw [gq]; exact HD.out.1.next (by omega) r gr)
            have g3 : IntKind.i64.wrap ((r : Int) + 1) = (r : Int) + 1 := by rw [IntKind.wrap_i64]; omega
            have hsl : ∀ W : World, (Instr.slice 9 (.string ⟨#[48, 49, 50, 51, 52, 53, 54, 55, 56, 57, 97, 98, 99, 100, 101, 102]⟩) (some (.int .i64 r)) (some (.int .i64 ((r : Int) + 1))) none).run Try.prog W = .ok (.string ⟨#[hd r]⟩) W := fun W => by
              rw [run_slice_string W 9 _ .i64 .i64 r ((r : Int) + 1) Try.underlying9 (by omega) (by omega) (by show (r : Int) + 1 ≤ 16; omega), show ((r : Int)).toNat = r by omega, show ((r : Int) + 1).toNat = r + 1 by omega, hex_at r hr16]
            have hq0 : 0 ≤ q ∧ q ≤ 2147483648 := by omega
            have hcat := cons_app (hd r) l
            have hqm : q < m := by omega
            clear gr gq
            go_wp2_with fail
            go_round
            case rel => exact ⟨q, hd r :: l, rfl, rfl, hq0.1, hq0.2, hid ⟨HN.out, by simp; omega⟩⟩
            case measure =>
              have z1 : (ByteArray.mk (hd r :: l).toArray).size = l.length + 1 := by rw [← list_len]; simp
              have z2 : (ByteArray.mk l.toArray).size = l.length := by rw [← list_len]
              simp only [intOf, z1, z2]
              rw [if_neg (by omega)]
              split <;> omega
          · obtain rfl : m = 0 := by omega
            by_cases hl : l = []
            · subst hl
              have HN : Hid (Digs 16 (- M) 0 [hd 0]) := hid (by have h := HD.out.1.next (by omega) 0 (by omega); simpa using h)
              have hsl : ∀ W : World, (Instr.slice 9 (.string ⟨#[48, 49, 50, 51, 52, 53, 54, 55, 56, 57, 97, 98, 99, 100, 101, 102]⟩) (some (.int .i64 0)) (some (.int .i64 1)) none).run Try.prog W = .ok (.string ⟨#[hd 0]⟩) W := fun W => by
                rw [run_slice_string W 9 _ .i64 .i64 0 1 Try.underlying9 (by omega) (by omega) (by show (1 : Int) ≤ 16; omega)]
                exact congrArg (fun x => Result.ok (Value.string x) W) (hex_at 0 (by omega))
              have hcat : ByteArray.mk #[hd 0] ++ ByteArray.mk #[] = ByteArray.mk #[hd 0] := cons_app (hd 0) []
              go_wp2_with fail
              go_round
              case rel => exact ⟨0, [hd 0], rfl, rfl, by omega, by omega, hid ⟨HN.out, by simp⟩⟩
              case measure => decide
            · have m5 : (l == []) = false := by
                cases l with
                | nil => exact absurd rfl hl
                | cons x r => rfl
              have m6 : l.isEmpty = false := by
                cases l with
                | nil => exact absurd rfl hl
                | cons x r => rfl
              have hpos : 0 < l.length := by
                cases l with
                | nil => exact absurd rfl hl
                | cons x r => simp
              have hl32 := HD.out.2
              have hsc := scan_hex HD.out.1.dig HD.out.1.done (by omega) hpos hl32
              have z1 : (ByteArray.mk l.toArray).size = l.length := by rw [← list_len]
              have z2 : (ByteArray.mk #[48, 120] ++ ByteArray.mk l.toArray).size = 2 + l.length := by rw [size_app, z1]; rfl
              have hadd : ∀ W : World, (Op.stringOp .add ⟨#[48, 120]⟩ ⟨l.toArray⟩).run Try.prog W = .ok (.string (⟨#[48, 120]⟩ ++ ⟨l.toArray⟩)) W := fun W => run_string_add_sum W _ _ (by rw [z1]; have : (ByteArray.mk #[48, 120]).size = 2 := rfl; omega)
              have z3 : (ByteArray.mk #[45] ++ (ByteArray.mk #[48, 120] ++ ByteArray.mk l.toArray)).size = 1 + (2 + l.length) := by rw [size_app, z2]; rfl
              have HF : Hid (NumTx (⟨#[45]⟩ ++ (⟨#[48, 120]⟩ ++ ⟨l.toArray⟩)) M) := hid ⟨by have h := hsc.2; rw [Int.neg_neg] at h; exact h, by rw [z3]; omega⟩
              have hadd2 : ∀ W : World, (Op.stringOp .add ⟨#[45]⟩ (⟨#[48, 120]⟩ ++ ⟨l.toArray⟩)).run Try.prog W = .ok (.string (⟨#[45]⟩ ++ (⟨#[48, 120]⟩ ++ ⟨l.toArray⟩))) W := fun W => run_string_add_sum W _ _ (by rw [z2]; have : (ByteArray.mk #[45]).size = 1 := rfl; omega)
              obtain ⟨T, gT⟩ : ∃ T, T = ByteArray.mk #[48, 120] ++ ByteArray.mk l.toArray := ⟨_, rfl⟩
              clear hl hsc
              go_wp2_with fail
              go_meet
              case rel => exact ⟨_, rfl, HF, HB⟩
      · have c7 : IntKind.i64.wrap (- M) = - M := by rw [IntKind.wrap_i64]; omega
        have c8 : ¬ M < - M := by omega
        go_wp2_with fail
        go_loop [6, 5] (fun k q => ∃ (m : Int) (l : List UInt8), k = .int .i64 m ∧ q = .string ⟨l.toArray⟩ ∧ 0 ≤ m ∧ m ≤ 2147483648 ∧ Hid (Digs 16 (M) m l ∧ l.length ≤ 32)) (fun k q => (intOf k).toNat + (match q with | .string s => if s.size = 0 then 1 else 0 | _ => 0))
        case atStart => exact ⟨M, [], rfl, rfl, by omega, by omega, hid ⟨Digs.start (by omega), Nat.zero_le _⟩⟩
        case round =>
          obtain ⟨m, l, rfl, rfl, hm0, hm1, HD⟩ := hrel
          by_cases hm : 0 < m
          · have hlen := HD.out.1.len hm
            obtain ⟨r, gr⟩ : ∃ r : Nat, (r : Int) = m % 16 := ⟨(m % 16).toNat, by omega⟩
            have g1 : m.tmod 16 = (r : Int) := by rw [Int.tmod_eq_emod_of_nonneg hm0, gr]
            obtain ⟨q, gq⟩ : ∃ q : Int, q = m / 16 := ⟨_, rfl⟩
            have g2 : m.tdiv 16 = q := by rw [Int.tdiv_eq_ediv_of_nonneg hm0, gq]
            have hr16 : r < 16 := by omega
            have HN : Hid (Digs 16 (M) q (hd r :: l)) := hid (by rw [gq]; exact HD.out.1.next (by omega) r gr)
            have g3 : IntKind.i64.wrap ((r : Int) + 1) = (r : Int) + 1 := by rw [IntKind.wrap_i64]; omega
            have hsl : ∀ W : World, (Instr.slice 9 (.string ⟨#[48, 49, 50, 51, 52, 53, 54, 55, 56, 57, 97, 98, 99, 100, 101, 102]⟩) (some (.int .i64 r)) (some (.int .i64 ((r : Int) + 1))) none).run Try.prog W = .ok (.string ⟨#[hd r]⟩) W := fun W => by
              rw [run_slice_string W 9 _ .i64 .i64 r ((r : Int) + 1) Try.underlying9 (by omega) (by omega) (by show (r : Int) + 1 ≤ 16; omega), show ((r : Int)).toNat = r by omega, show ((r : Int) + 1).toNat = r + 1 by omega, hex_at r hr16]
            have hq0 : 0 ≤ q ∧ q ≤ 2147483648 := by omega
            have hcat := cons_app (hd r) l
            have hqm : q < m := by omega
            clear gr gq
            go_wp2_with fail
            go_round
            case rel => exact ⟨q, hd r :: l, rfl, rfl, hq0.1, hq0.2, hid ⟨HN.out, by simp; omega⟩⟩
            case measure =>
              have z1 : (ByteArray.mk (hd r :: l).toArray).size = l.length + 1 := by rw [← list_len]; simp
              have z2 : (ByteArray.mk l.toArray).size = l.length := by rw [← list_len]
              simp only [intOf, z1, z2]
              rw [if_neg (by omega)]
              split <;> omega
          · obtain rfl : m = 0 := by omega
            by_cases hl : l = []
            · subst hl
              have HN : Hid (Digs 16 (M) 0 [hd 0]) := hid (by have h := HD.out.1.next (by omega) 0 (by omega); simpa using h)
              have hsl : ∀ W : World, (Instr.slice 9 (.string ⟨#[48, 49, 50, 51, 52, 53, 54, 55, 56, 57, 97, 98, 99, 100, 101, 102]⟩) (some (.int .i64 0)) (some (.int .i64 1)) none).run Try.prog W = .ok (.string ⟨#[hd 0]⟩) W := fun W => by
                rw [run_slice_string W 9 _ .i64 .i64 0 1 Try.underlying9 (by omega) (by omega) (by show (1 : Int) ≤ 16; omega)]
                exact congrArg (fun x => Result.ok (Value.string x) W) (hex_at 0 (by omega))
              have hcat : ByteArray.mk #[hd 0] ++ ByteArray.mk #[] = ByteArray.mk #[hd 0] := cons_app (hd 0) []
              go_wp2_with fail
              go_round
              case rel => exact ⟨0, [hd 0], rfl, rfl, by omega, by omega, hid ⟨HN.out, by simp⟩⟩
              case measure => decide
            · have m5 : (l == []) = false := by
                cases l with
                | nil => exact absurd rfl hl
                | cons x r => rfl
              have m6 : l.isEmpty = false := by
                cases l with
                | nil => exact absurd rfl hl
                | cons x r => rfl
              have hpos : 0 < l.length := by
                cases l with
                | nil => exact absurd rfl hl
                | cons x r => simp
              have hl32 := HD.out.2
              have hsc := scan_hex HD.out.1.dig HD.out.1.done (by omega) hpos hl32
              have z1 : (ByteArray.mk l.toArray).size = l.length := by rw [← list_len]
              have z2 : (ByteArray.mk #[48, 120] ++ ByteArray.mk l.toArray).size = 2 + l.length := by rw [size_app, z1]; rfl
              have hadd : ∀ W : World, (Op.stringOp .add ⟨#[48, 120]⟩ ⟨l.toArray⟩).run Try.prog W = .ok (.string (⟨#[48, 120]⟩ ++ ⟨l.toArray⟩)) W := fun W => run_string_add_sum W _ _ (by rw [z1]; have : (ByteArray.mk #[48, 120]).size = 2 := rfl; omega)
              have HF : Hid (NumTx (⟨#[48, 120]⟩ ++ ⟨l.toArray⟩) M) := hid ⟨hsc.1, by rw [z2]; omega⟩
              clear hl hsc
              go_wp2_with fail
              go_meet
              case rel => exact ⟨_, rfl, HF, HB⟩
  case rest =>
    obtain ⟨S2, rfl, HS2, HB2⟩ := hcut
    have hsz := HS2.out.2
    have k2 := hid (scan_any S2 wc (by omega))
    rw [HS2.out.1] at k2
    clear k1 HS HB gM
    go_wp2_with fail
    refine k2.out.mono ?_
    rintro e w2 ⟨⟨v, rfl, ho⟩, hb⟩
    have HB3 := hid (HB2.out.trans (hb.mono HB2.out.size))
    have ho' : w2.ownsRow wc.heap.size 33 4 v 1 (toks [⟨2, 0, S2, M⟩]) := ho
    obtain ⟨g, c, rfl⟩ := own_some ho' (by omega)
    obtain ⟨p0, p1, p2, p3⟩ := toks_cells (l := [⟨2, 0, S2, M⟩]) ho' 0 (by simp)
    simp only [List.getElem_cons_zero, Nat.zero_mul, Nat.zero_add] at p0 p1 p2 p3
    clear ho ho' hb
    go_wp2_with fail
    go_ret
    exact ⟨rfl, HB3.out⟩

end Go.Proofs.Ytidcodpekeaigaa
