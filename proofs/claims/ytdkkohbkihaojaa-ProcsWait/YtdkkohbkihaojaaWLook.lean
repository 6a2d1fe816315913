/- What Look of the one process does; two lists of the one number 1 are equal; the lowest byte of a number. -/
import Derived.Test.YtdkkohbkihaojaaWTab
import Derived.Laws.BitsLemmas
namespace Go.Proofs.Ytdkkohbkihaojaa
open Go.RowKit
set_option linter.unusedVariables false

theorem and255 (n : Int) : bits .and .i64 n 255 = n % 256 := by
  have h255 : (BitVec.ofInt 64 255).toNat = 2 ^ 8 - 1 := by decide
  have hk : (BitVec.ofInt 64 n &&& BitVec.ofInt 64 255).toNat = (n % ((2 ^ 64 : Nat) : Int)).toNat % 2 ^ 8 := by
    rw [BitVec.toNat_and, BitVec.toNat_ofInt, h255, Nat.and_two_pow_sub_one_eq_mod]
  have hw : bits .and .i64 n 255 = IntKind.i64.wrap ((BitVec.ofInt 64 n &&& BitVec.ofInt 64 255).toNat : Nat) := rfl
  rw [hw, hk, IntKind.wrap_i64]
  omega

theorem heap_second (w : World) (a b : Obj) : ((w.alloc a).alloc b).heap[w.heap.size + 1]? = some b := by
  have h := heap_alloc_new (w.alloc a) b
  rwa [show (w.alloc a).heap.size = w.heap.size + 1 by simp] at h

/-- A list of the one number 1. -/
def One (w : World) (a : Option Addr) : Prop := ∃ g, a = some ⟨g, 0, none⟩ ∧ g < w.heap.size ∧ w.cell? ⟨g, 0, none⟩ = some (.int .i64 1)

set_option maxHeartbeats 1000000 in
theorem sequal_one (a b : Option Addr) (c d : Nat) (w : World) (ha : One w a) (hb : One w b) :
    Calls Try.prog 26 #[.slice a 1 c, .slice b 1 d] w fun e w' => e = .returned (.bool true) ∧ Below w.heap.size w w' := by
  obtain ⟨g, rfl, hg, cg⟩ := ha
  obtain ⟨k, rfl, hk, ck⟩ := hb
  go_enter Try.func26, Try.ntmps26
  go_wp2_with fail
  go_loopw [13] (fun s wr => (s = .int .i64 0 ∧ wr = w) ∨ (s = .int .i64 1 ∧ Below w.heap.size w wr)) (fun s _ => 1 - (intOf s).toNat)
  case atStart => exact .inl ⟨rfl, rfl⟩
  case round =>
    rcases hrel with ⟨rfl, rfl⟩ | ⟨rfl, hb⟩
    · go_wp2_with fail
      go_region_held3 (fun wx => wx.cell? ⟨g, 0, none⟩ = some (.int .i64 1) ∧ wx.cell? ⟨k, 0, none⟩ = some (.int .i64 1)) (go_keep) (fail)
      go_wp2_with fail
      go_roundw
      case rel => exact .inr ⟨by go_num, (Below.refl _ _).drew⟩
      case measure => simp [intOf]
    · go_wp2_with fail
      go_ret
      exact ⟨rfl, hb⟩

set_option maxHeartbeats 4000000 in
set_option maxRecDepth 20000 in
theorem look_first (q f : Nat) (w : World) (h : Tq w q f 0 (tab 0 0 0)) :
    Calls Try.prog 28 #[.pointer (some ⟨q, 0, none⟩)] w fun e w' => (∃ a c, e = .returned (.slice a 1 c)) ∧ Below w.heap.size w w' := by
  obtain ⟨i0, hi0, hz0, hz1, hz2⟩ := info_parts infoR9
  have k1 := hid (qusable_yes q f w h.fl)
  have hR := hid h.range
  obtain ⟨L, gL⟩ : ∃ L, L = tabL 0 0 0 := ⟨_, rfl⟩
  have HS : Hid ((Try.prog.info? 73).map (·.size) = some L.length) := by rw [csizeTab, gL, tabL_len]; exact hid rfl
  have HIX : Hid (∀ j : Nat, j < 5 → ∀ W : World, (Instr.index 73 (.agg L.toArray) (.int .i64 (j : Int))).run Try.prog W = .ok (.agg #[.int .i64 (tab 0 0 0 j).st, .int .i64 (tab 0 0 0 j).pa, .int .i64 (tab 0 0 0 j).co, .int .i64 0, .int .i64 0, .int .i64 0, .int .i64 0, .int .i64 0, .int .i64 0]) W) := by
    rw [gL]; exact hid (fun j hj W => ixTab 0 0 0 j hj W)
  rw [← gL] at hR
  clear h gL
  go_enter Try.func28, Try.ntmps28
  go_wp2_with fail
  refine k1.out.mono ?_
  rintro e w1 ⟨rfl, rfl⟩
  go_wp2_with (refine wpList_load_mid rfl 73 (.tmp 11) rfl q 2 rfl L _ hR.out Try.underlying73 rfl HS.out ?_)
  rename World => w
  go_loopw [3, 13] (fun v k wr => ∃ j : Nat, j ≤ 5 ∧ k = .int .i64 j ∧ Hid (j ≤ 1 → v = .slice none 0 0) ∧ Hid (2 ≤ j → ∃ a c, v = .slice a 1 c) ∧ Hid (Below w.heap.size w wr)) (fun _ k _ => 5 - (intOf k).toNat)
  case atStart => exact ⟨0, by omega, rfl, hid (fun _ => rfl), hid (fun h => by omega), hid (Below.refl _ _)⟩
  case round =>
    obtain ⟨j, hj5, rfl, H1, H2, HB⟩ := hrel
    rcases (show j = 5 ∨ j = 1 ∨ (j = 0 ∨ j = 2 ∨ j = 3 ∨ j = 4) by omega) with rfl | h1 | h
    · obtain ⟨a, c, rfl⟩ := H2.out (by omega)
      go_wp2_with fail
      go_ret
      exact ⟨⟨_, _, rfl⟩, HB.out⟩
    · have hix := HIX.out j (by omega)
      have hpa : (tab 0 0 0 j).pa = 0 := by subst h1; rfl
      have hst : (tab 0 0 0 j).st = 1 := by subst h1; rfl
      have hco : (tab 0 0 0 j).co = 0 := by subst h1; rfl
      rw [hpa, hst, hco] at hix
      obtain rfl := H1.out (by omega)
      have hj6 : (j : Int) < 5 := by omega
      have b0 : (0 : Int) ≤ j := by omega
      have HJ := hid h1
      clear hpa hst hco h1
      go_wp2_with (at_builtin; go_must (refine wpList_append_where rfl _ _ 68 rfl 118 i0 _ 10 80 Try.underlying68 hi0 hz0 hz1 hz2 rfl (by decide) (.slice none 0 0) 0 [] rfl (World.ownsRow_nil _ _ _ _) ⟨_, 0, none⟩ 1 1 [.int .i64 (j : Int), .int .i64 0, .int .i64 1, .int .i64 0, .int .i64 0, .int .i64 0, .int .i64 0, .int .i64 0, .int .i64 0, .int .i64 0] rfl rfl (by intro a u hj; rw [Addr.add_lit, Nat.zero_add, cell_of_row _ _ a _ 118 (0, 0) (by exact heap_second _ _ _)]; simpa using hj) (by simp [Value.oneCell']) (by unfold maxLen; omega) (by omega) ?_))
      intro v' w3 hO3 hU3 hN3 hW3
      obtain ⟨ae, c, rfl⟩ : ∃ ae c, v' = .slice ae 1 c := by
        rcases hO3.out.2 with ⟨_, h0⟩ | ⟨g, c, cur, rfl, _⟩
        · simp at h0
        · exact ⟨_, c, rfl⟩
      have hb3 : Below w.heap.size w w3 := by
        have hs := HB.out.size
        refine (HB.out.trans (((two_allocs wr _ _).mono hs))).trans (hU3.below ?_ (fun x hx => by simp [Value.ownBlock] at hx))
        simp; omega
      have HB3 := hid hb3
      clear hb3 hO3 hU3 hN3 hW3
      go_wp2_with fail
      go_roundw
      case rel => exact ⟨j + 1, by omega, by go_num, hid (fun h => by have := HJ.out; omega), hid (fun _ => ⟨_, _, rfl⟩), HB3⟩
      case measure => simp [intOf]; omega
    · have hix := HIX.out j (by omega)
      have hst : (tab 0 0 0 j).st = 0 := by rcases h with rfl | rfl | rfl | rfl <;> rfl
      obtain ⟨x, gx⟩ : ∃ x, x = tab 0 0 0 j := ⟨_, rfl⟩
      rw [← gx] at hix hst
      rw [hst] at hix
      have hj6 : (j : Int) < 5 := by omega
      have HA : Hid ((j + 1 ≤ 1 → j ≤ 1) ∧ (2 ≤ j + 1 → 2 ≤ j)) := hid ⟨by omega, by omega⟩
      clear gx h hst
      go_wp2_with fail
      go_roundw
      case rel => exact ⟨j + 1, by omega, by go_num, hid (fun h => H1.out (HA.out.1 h)), hid (fun h => H2.out (HA.out.2 h)), hid (HB.out.trans (((Below.refl _ _).alloc (Nat.le_refl _) _).mono HB.out.size))⟩
      case measure => simp [intOf]; omega

end Go.Proofs.Ytdkkohbkihaojaa
