/- How much a call is wanted behind another one: what the program's Weight answers. -/
import Derived.Test.YtmieoihjgckfhaaWUses
import Derived.Test.YtmieoihjgckfhaaWNob
namespace Go.Proofs.Ytmieoihjgckfhaa
open Go.RowKit
set_option linter.unusedVariables false
set_option maxRecDepth 20000

theorem ccC_at (cs : List Cc) (i : Nat) (h : i < cs.length) : (ccC cs)[i * 2]? = some (.string cs[i].rs) ∧ (ccC cs)[i * 2 + 1]? = some (.slice cs[i].a cs[i].n cs[i].c) := by
  induction cs generalizing i with
  | nil => simp at h
  | cons x r ih =>
    have e : ccC (x :: r) = .string x.rs :: .slice x.a x.n x.c :: ccC r := rfl
    rw [e]
    cases i with
    | zero => exact ⟨rfl, rfl⟩
    | succ i =>
      have := ih i (by simpa using h)
      rw [show (i + 1) * 2 = i * 2 + 1 + 1 by omega, show i * 2 + 1 + 1 + 1 = (i * 2 + 1) + 1 + 1 by omega]
      simpa using this

/-- Where the calls of a choice lie. -/
theorem Cw.at {w : World} {B p m : Nat} {cs : List Cc} (h : Cw w B p m cs) (h0 : 0 < cs.length) : ∃ g c, w.cell? ⟨p, 1, none⟩ = some (.slice (some ⟨g, 0, none⟩) cs.length c) ∧ g < w.heap.size ∧ ∀ i, ∀ hi : i < cs.length, w.cell? ⟨g, i * 2, none⟩ = some (.string cs[i].rs) ∧ w.cell? ⟨g, i * 2 + 1, none⟩ = some (.slice cs[i].a cs[i].n cs[i].c) := by
  obtain ⟨v, h1, h2⟩ := h.ex
  have h3 := h2
  rcases h2.2 with ⟨_, hn⟩ | ⟨g, c, cur, rfl, _, hg, _⟩
  · omega
  · refine ⟨g, c, cell_of_row _ _ 1 _ _ _ h1, (Array.getElem?_eq_some_iff.1 hg).1, fun i hi => ?_⟩
    have hl := ccC_len cs
    have e1 := h3.cellAt (i * 2) (by omega)
    have e2 := h3.cellAt (i * 2 + 1) (by omega)
    rw [(ccC_at cs i hi).1] at e1
    rw [(ccC_at cs i hi).2] at e2
    exact ⟨e1, e2⟩

/-- How much call b is wanted behind call a. -/
def wtC (cs : List Cc) (F : Int → Int → Nat) (a b : Int) : Int :=
  if hasB cs.length b = false ∨ (0 ≤ a ∧ hasB cs.length a = false) then 0 else
  1 + 2 * (min (F (if 0 ≤ a then a else -1) b) 10 : Nat) + if 0 ≤ a ∧ ((cs[b.toNat]?).bind fun x => (cs[a.toNat]?).map fun y => usesB x y) = some true then 4 else 0

theorem wtC_neg (cs : List Cc) (F : Int → Int → Nat) (a b : Int) (ha : a < 0) (hb : hasB cs.length b = true) : wtC cs F a b = 1 + 2 * (min (F (-1) b) 10 : Nat) := by
  unfold wtC
  rw [if_neg (by rw [hb]; simp; omega), if_neg (show ¬ 0 ≤ a by omega), if_neg (by omega)]
  omega
theorem wtC_pos (cs : List Cc) (F : Int → Int → Nat) (a b : Nat) (ha : a < cs.length) (hb : b < cs.length) : wtC cs F a b = 1 + 2 * (min (F a b) 10 : Nat) + if usesB cs[b] cs[a] = true then 4 else 0 := by
  have h1 : hasB cs.length (a : Int) = true := by simp [hasB]; omega
  have h2 : hasB cs.length (b : Int) = true := by simp [hasB]; omega
  unfold wtC
  rw [if_neg (by rw [h1, h2]; simp), if_pos (show (0 : Int) ≤ (a : Int) by omega)]
  congr 1
  rw [Int.toNat_natCast, Int.toNat_natCast, List.getElem?_eq_getElem ha, List.getElem?_eq_getElem hb]
  simp
theorem wtC_none (cs : List Cc) (F : Int → Int → Nat) (a b : Int) (h : hasB cs.length b = false ∨ (0 ≤ a ∧ hasB cs.length a = false)) : wtC cs F a b = 0 := by
  unfold wtC; rw [if_pos h]
theorem wtC_ge (cs : List Cc) (F : Int → Int → Nat) (a b : Int) : 0 ≤ wtC cs F a b ∧ wtC cs F a b ≤ 25 := by
  unfold wtC
  split
  · omega
  · split <;> omega

set_option maxHeartbeats 4000000 in
theorem weight_none (w : World) (B p m : Nat) (cs : List Cc) (F : Int → Int → Nat) (a b : Int) (hC : Cw w B p m cs) (h : hasB cs.length b = false ∨ (0 ≤ a ∧ hasB cs.length a = false)) :
    Calls Try.prog 18 #[.pointer (some ⟨p, 0, none⟩), .int .i64 a, .int .i64 b] w fun e w' => e = .returned (.int .i64 0) ∧ w' = w := by
  have k1 := hid (cmade_of w p true hC.c0)
  obtain ⟨ca, cc, hc1⟩ := hC.c1
  have k2 := hid (has_any w p ca cs.length cc b hc1)
  have k3 := hid (has_any w p ca cs.length cc a hc1)
  generalize cs.length = N at *
  clear hC hc1
  by_cases hb : hasB N b = false
  · rw [hb] at k2
    go_enter Try.func18, Try.ntmps18
    go_wp2_with fail
    all_goals
      refine k1.out.mono ?_
      rintro e w1 ⟨rfl, rfl⟩
      go_wp2_with fail
      refine k2.out.mono ?_
      rintro e w2 ⟨rfl, rfl⟩
      go_wp2_with fail
      go_ret
      exact ⟨rfl, rfl⟩
  · have hb' : hasB N b = true := by simpa using hb
    obtain ⟨ha, hh⟩ : 0 ≤ a ∧ hasB N a = false := by rcases h with h | h; exact absurd h hb; exact h
    rw [hb'] at k2
    rw [hh] at k3
    have e1 : -1 ≤ a := by omega
    have e2 : ¬ a < -1 := by omega
    have e3 : max a (-1) = a := by omega
    have e4 : ¬ a = -1 := by omega
    go_enter Try.func18, Try.ntmps18
    go_wp2_with fail
    refine k1.out.mono ?_
    rintro e w1 ⟨rfl, rfl⟩
    go_wp2_with fail
    refine k2.out.mono ?_
    rintro e w2 ⟨rfl, rfl⟩
    go_wp2_with fail
    refine k3.out.mono ?_
    rintro e w3 ⟨rfl, rfl⟩
    go_wp2_with fail
    go_ret
    exact ⟨rfl, rfl⟩

theorem min10 (n : Nat) : (min (n : Int) 10) = ((min n 10 : Nat) : Int) := by omega

set_option maxHeartbeats 4000000 in
theorem weight_neg (w : World) (B p m : Nat) (cs : List Cc) (F : Int → Int → Nat) (a b : Int) (hC : Cw w B p m cs) (hM : Mp w m F) (hn : cs.length ≤ 1099511627776) (ha : a < 0) (hb : hasB cs.length b = true) :
    Calls Try.prog 18 #[.pointer (some ⟨p, 0, none⟩), .int .i64 a, .int .i64 b] w fun e w' => e = .returned (.int .i64 (wtC cs F a b)) ∧ Below w.heap.size w w' := by
  rw [wtC_neg cs F a b ha hb]
  have k1 := hid (cmade_of w p true hC.c0)
  obtain ⟨ca, cc, hc1⟩ := hC.c1
  have hc2 := hC.c2
  have k2 := hid (has_any w p ca cs.length cc b hc1)
  have hrg : Rg (-1) b := by
    simp only [hasB, Bool.and_eq_true, decide_eq_true_eq] at hb
    unfold Rg; omega
  have hlk : (Instr.lookup 57 (.map (some m)) (.agg #[.int .i64 (-1), .int .i64 b]) false).run Try.prog w = .ok (.int .i64 (F (-1) b)) w := mp_lookup hM (-1) b hrg
  rw [hb] at k2
  generalize F (-1) b = f at hlk ⊢
  clear hC hM hc1 hb hrg
  by_cases ha1 : a < -1
  · have e1 : max a (-1) = -1 := by omega
    by_cases hf : f ≤ 10
    · rw [Nat.min_eq_left hf]
      have g1 : (f : Int) ≤ 10 := by omega
      have g2 : ¬ (10 : Int) < (f : Int) := by omega
      have g3 : IntKind.i64.wrap (2 * (f : Int)) = 2 * (f : Int) := by rw [IntKind.wrap_i64]; omega
      have g4 : IntKind.i64.wrap (1 + 2 * (f : Int)) = 1 + 2 * (f : Int) := by rw [IntKind.wrap_i64]; omega
      go_enter Try.func18, Try.ntmps18
      go_wp2_with fail
      refine k1.out.mono ?_
      rintro e w1 ⟨rfl, rfl⟩
      go_wp2_with fail
      refine k2.out.mono ?_
      rintro e w2 ⟨rfl, rfl⟩
      go_wp2_with fail
      go_quiet (fail)
      go_wp2_with fail
      go_ret
      exact ⟨rfl, below_drewN (Below.refl _ _) _⟩
    · rw [Nat.min_eq_right (by omega : 10 ≤ f)]
      have g1 : ¬ (f : Int) ≤ 10 := by omega
      have g2 : (10 : Int) < (f : Int) := by omega
      have g3 : IntKind.i64.wrap (2 * (10 : Int)) = 2 * (10 : Int) := by rw [IntKind.wrap_i64]; omega
      go_enter Try.func18, Try.ntmps18
      go_wp2_with fail
      refine k1.out.mono ?_
      rintro e w1 ⟨rfl, rfl⟩
      go_wp2_with fail
      refine k2.out.mono ?_
      rintro e w2 ⟨rfl, rfl⟩
      go_wp2_with fail
      go_quiet (fail)
      go_wp2_with fail
      go_ret
      exact ⟨rfl, below_drewN (Below.refl _ _) _⟩
  · obtain rfl : a = -1 := by omega
    by_cases hf : f ≤ 10
    · rw [Nat.min_eq_left hf]
      have g1 : (f : Int) ≤ 10 := by omega
      have g2 : ¬ (10 : Int) < (f : Int) := by omega
      have g3 : IntKind.i64.wrap (2 * (f : Int)) = 2 * (f : Int) := by rw [IntKind.wrap_i64]; omega
      have g4 : IntKind.i64.wrap (1 + 2 * (f : Int)) = 1 + 2 * (f : Int) := by rw [IntKind.wrap_i64]; omega
      go_enter Try.func18, Try.ntmps18
      go_wp2_with fail
      refine k1.out.mono ?_
      rintro e w1 ⟨rfl, rfl⟩
      go_wp2_with fail
      refine k2.out.mono ?_
      rintro e w2 ⟨rfl, rfl⟩
      go_wp2_with fail
      go_quiet (fail)
      go_wp2_with fail
      go_ret
      exact ⟨rfl, below_drewN (Below.refl _ _) _⟩
    · rw [Nat.min_eq_right (by omega : 10 ≤ f)]
      have g1 : ¬ (f : Int) ≤ 10 := by omega
      have g2 : (10 : Int) < (f : Int) := by omega
      have g3 : IntKind.i64.wrap (2 * (10 : Int)) = 2 * (10 : Int) := by rw [IntKind.wrap_i64]; omega
      go_enter Try.func18, Try.ntmps18
      go_wp2_with fail
      refine k1.out.mono ?_
      rintro e w1 ⟨rfl, rfl⟩
      go_wp2_with fail
      refine k2.out.mono ?_
      rintro e w2 ⟨rfl, rfl⟩
      go_wp2_with fail
      go_quiet (fail)
      go_wp2_with fail
      go_ret
      exact ⟨rfl, below_drewN (Below.refl _ _) _⟩

set_option maxHeartbeats 8000000 in
theorem weight_pos (w : World) (B p m : Nat) (cs : List Cc) (F : Int → Int → Nat) (a b : Nat) (hC : Cw w B p m cs) (hM : Mp w m F) (hn : cs.length ≤ 1099511627776) (ha : a < cs.length) (hb : b < cs.length) (hs : ∀ x ∈ cs, x.n ≤ 9223372036854775807) :
    Calls Try.prog 18 #[.pointer (some ⟨p, 0, none⟩), .int .i64 (a : Int), .int .i64 (b : Int)] w fun e w' => e = .returned (.int .i64 (wtC cs F a b)) ∧ Below w.heap.size w w' := by
  rw [wtC_pos cs F a b ha hb]
  have hha : hasB cs.length (a : Int) = true := by simp [hasB]; omega
  have hhb : hasB cs.length (b : Int) = true := by simp [hasB]; omega
  have k1 := hid (cmade_of w p true hC.c0)
  obtain ⟨g, gc, hc1, hgl, hce⟩ := hC.at (by omega)
  have hc2 := hC.c2
  have k2 := hid (has_any w p _ cs.length gc b hc1)
  have k3 := hid (has_any w p _ cs.length gc a hc1)
  have hrg : Rg (a : Int) (b : Int) := by unfold Rg; omega
  have hlk : (Instr.lookup 57 (.map (some m)) (.agg #[.int .i64 (a : Int), .int .i64 (b : Int)]) false).run Try.prog w = .ok (.int .i64 (F a b)) w := mp_lookup hM a b hrg
  rw [hhb] at k2
  rw [hha] at k3
  obtain ⟨ca1, ca2⟩ := hce a ha
  obtain ⟨cb1, cb2⟩ := hce b hb
  have hOk := hC.ok cs[b] (List.getElem_mem hb)
  have ku : Hid (∀ W, Below w.heap.size w W → Calls Try.prog 27 #[.agg #[.string cs[b].rs, .slice cs[b].a cs[b].n cs[b].c], .agg #[.string cs[a].rs, .slice cs[a].a cs[a].n cs[a].c]] W fun e w' => e = .returned (.bool (usesB cs[b] cs[a])) ∧ Below W.heap.size W w') := hid fun W hW => uses_any W B cs[b] cs[a] (own_below hOk hW) (hs _ (List.getElem_mem hb))
  have hpl := hC.pl
  generalize F a b = f at hlk ⊢
  generalize usesB cs[b] cs[a] = r at ku ⊢
  generalize cs[b] = xb at ku cb1 cb2
  generalize cs[a] = xa at ku ca1 ca2
  obtain ⟨xbr, xba, xbn, xbc, xbt⟩ := xb
  obtain ⟨xar, xaa, xan, xac, xat⟩ := xa
  dsimp only at *
  have hai : (a : Int) < (cs.length : Int) := by omega
  have hbi : (b : Int) < (cs.length : Int) := by omega
  clear hC hM hce hOk hs hrg hha hhb
  generalize cs.length = N at *
  have n1 : -1 ≤ (a : Int) := by omega
  have n2 : ¬ (a : Int) < -1 := by omega
  have n3 : max (a : Int) (-1) = a := by omega
  have n4 : ¬ (a : Int) = -1 := by omega
  by_cases hf : f ≤ 10
  · rw [Nat.min_eq_left hf]
    have g1 : (f : Int) ≤ 10 := by omega
    have g2 : ¬ (10 : Int) < (f : Int) := by omega
    have g3 : IntKind.i64.wrap (2 * (f : Int)) = 2 * (f : Int) := by rw [IntKind.wrap_i64]; omega
    have g4 : IntKind.i64.wrap (1 + 2 * (f : Int)) = 1 + 2 * (f : Int) := by rw [IntKind.wrap_i64]; omega
    cases r with
    | false =>
      simp only [Bool.false_eq_true, if_false]
      go_enter Try.func18, Try.ntmps18
      go_wp2_with fail
      refine k1.out.mono ?_
      rintro e w1 ⟨rfl, rfl⟩
      go_wp2_with fail
      refine k2.out.mono ?_
      rintro e w2 ⟨rfl, rfl⟩
      go_wp2_with fail
      refine k3.out.mono ?_
      rintro e w3 ⟨rfl, rfl⟩
      go_wp2_with fail
      go_region_held3 (fun wx => wx.cell? ⟨p, 1, none⟩ = some (.slice (some ⟨g, 0, none⟩) N gc) ∧ wx.cell? ⟨g, b * 2, none⟩ = some (.string xbr) ∧ wx.cell? ⟨g, b * 2 + 1, none⟩ = some (.slice xba xbn xbc) ∧ wx.cell? ⟨g, a * 2, none⟩ = some (.string xar) ∧ wx.cell? ⟨g, a * 2 + 1, none⟩ = some (.slice xaa xan xac)) (go_keep) (first
        | (go_at_call 27; refine (ku.out _ (below_hp (Below.refl _ _) (by rfl) (by rfl) (by rfl) (by rfl))).mono ?_; rintro e w4 ⟨rfl, hb4⟩; have HB4 : Hid (Below w3.heap.size w3 w4) := hid ((below_hp (Below.refl _ w3) (by rfl) (by rfl) (by rfl) (by rfl)).trans hb4); have q1 := (HB4.out.cell (p := ⟨p, 1, none⟩) hpl).trans hc1; have q2 := (HB4.out.cell (p := ⟨g, b * 2, none⟩) hgl).trans cb1; have q3 := (HB4.out.cell (p := ⟨g, b * 2 + 1, none⟩) hgl).trans cb2; have q4 := (HB4.out.cell (p := ⟨g, a * 2, none⟩) hgl).trans ca1; have q5 := (HB4.out.cell (p := ⟨g, a * 2 + 1, none⟩) hgl).trans ca2; clear hb4))
      go_wp2_with fail
      go_ret
      exact ⟨rfl, HB4.out⟩
    | true =>
      have g5 : IntKind.i64.wrap (1 + 2 * (f : Int) + 4) = 1 + 2 * (f : Int) + 4 := by rw [IntKind.wrap_i64]; omega
      simp only [if_true]
      go_enter Try.func18, Try.ntmps18
      go_wp2_with fail
      refine k1.out.mono ?_
      rintro e w1 ⟨rfl, rfl⟩
      go_wp2_with fail
      refine k2.out.mono ?_
      rintro e w2 ⟨rfl, rfl⟩
      go_wp2_with fail
      refine k3.out.mono ?_
      rintro e w3 ⟨rfl, rfl⟩
      go_wp2_with fail
      go_region_held3 (fun wx => wx.cell? ⟨p, 1, none⟩ = some (.slice (some ⟨g, 0, none⟩) N gc) ∧ wx.cell? ⟨g, b * 2, none⟩ = some (.string xbr) ∧ wx.cell? ⟨g, b * 2 + 1, none⟩ = some (.slice xba xbn xbc) ∧ wx.cell? ⟨g, a * 2, none⟩ = some (.string xar) ∧ wx.cell? ⟨g, a * 2 + 1, none⟩ = some (.slice xaa xan xac)) (go_keep) (first
        | (go_at_call 27; refine (ku.out _ (below_hp (Below.refl _ _) (by rfl) (by rfl) (by rfl) (by rfl))).mono ?_; rintro e w4 ⟨rfl, hb4⟩; have HB4 : Hid (Below w3.heap.size w3 w4) := hid ((below_hp (Below.refl _ w3) (by rfl) (by rfl) (by rfl) (by rfl)).trans hb4); have q1 := (HB4.out.cell (p := ⟨p, 1, none⟩) hpl).trans hc1; have q2 := (HB4.out.cell (p := ⟨g, b * 2, none⟩) hgl).trans cb1; have q3 := (HB4.out.cell (p := ⟨g, b * 2 + 1, none⟩) hgl).trans cb2; have q4 := (HB4.out.cell (p := ⟨g, a * 2, none⟩) hgl).trans ca1; have q5 := (HB4.out.cell (p := ⟨g, a * 2 + 1, none⟩) hgl).trans ca2; clear hb4))
      go_wp2_with fail
      go_ret
      exact ⟨rfl, HB4.out⟩
  · rw [Nat.min_eq_right (by omega : 10 ≤ f)]
    have g1 : ¬ (f : Int) ≤ 10 := by omega
    have g2 : (10 : Int) < (f : Int) := by omega
    have g3 : IntKind.i64.wrap (2 * (10 : Int)) = 2 * (10 : Int) := by rw [IntKind.wrap_i64]; omega
    cases r with
    | false =>
      simp only [Bool.false_eq_true, if_false]
      go_enter Try.func18, Try.ntmps18
      go_wp2_with fail
      refine k1.out.mono ?_
      rintro e w1 ⟨rfl, rfl⟩
      go_wp2_with fail
      refine k2.out.mono ?_
      rintro e w2 ⟨rfl, rfl⟩
      go_wp2_with fail
      refine k3.out.mono ?_
      rintro e w3 ⟨rfl, rfl⟩
      go_wp2_with fail
      go_region_held3 (fun wx => wx.cell? ⟨p, 1, none⟩ = some (.slice (some ⟨g, 0, none⟩) N gc) ∧ wx.cell? ⟨g, b * 2, none⟩ = some (.string xbr) ∧ wx.cell? ⟨g, b * 2 + 1, none⟩ = some (.slice xba xbn xbc) ∧ wx.cell? ⟨g, a * 2, none⟩ = some (.string xar) ∧ wx.cell? ⟨g, a * 2 + 1, none⟩ = some (.slice xaa xan xac)) (go_keep) (first
        | (go_at_call 27; refine (ku.out _ (below_hp (Below.refl _ _) (by rfl) (by rfl) (by rfl) (by rfl))).mono ?_; rintro e w4 ⟨rfl, hb4⟩; have HB4 : Hid (Below w3.heap.size w3 w4) := hid ((below_hp (Below.refl _ w3) (by rfl) (by rfl) (by rfl) (by rfl)).trans hb4); have q1 := (HB4.out.cell (p := ⟨p, 1, none⟩) hpl).trans hc1; have q2 := (HB4.out.cell (p := ⟨g, b * 2, none⟩) hgl).trans cb1; have q3 := (HB4.out.cell (p := ⟨g, b * 2 + 1, none⟩) hgl).trans cb2; have q4 := (HB4.out.cell (p := ⟨g, a * 2, none⟩) hgl).trans ca1; have q5 := (HB4.out.cell (p := ⟨g, a * 2 + 1, none⟩) hgl).trans ca2; clear hb4))
      go_wp2_with fail
      go_ret
      exact ⟨rfl, HB4.out⟩
    | true =>
      have g5 : IntKind.i64.wrap (1 + 2 * (10 : Int) + 4) = 1 + 2 * (10 : Int) + 4 := by rw [IntKind.wrap_i64]; omega
      simp only [if_true]
      go_enter Try.func18, Try.ntmps18
      go_wp2_with fail
      refine k1.out.mono ?_
      rintro e w1 ⟨rfl, rfl⟩
      go_wp2_with fail
      refine k2.out.mono ?_
      rintro e w2 ⟨rfl, rfl⟩
      go_wp2_with fail
      refine k3.out.mono ?_
      rintro e w3 ⟨rfl, rfl⟩
      go_wp2_with fail
      go_region_held3 (fun wx => wx.cell? ⟨p, 1, none⟩ = some (.slice (some ⟨g, 0, none⟩) N gc) ∧ wx.cell? ⟨g, b * 2, none⟩ = some (.string xbr) ∧ wx.cell? ⟨g, b * 2 + 1, none⟩ = some (.slice xba xbn xbc) ∧ wx.cell? ⟨g, a * 2, none⟩ = some (.string xar) ∧ wx.cell? ⟨g, a * 2 + 1, none⟩ = some (.slice xaa xan xac)) (go_keep) (first
        | (go_at_call 27; refine (ku.out _ (below_hp (Below.refl _ _) (by rfl) (by rfl) (by rfl) (by rfl))).mono ?_; rintro e w4 ⟨rfl, hb4⟩; have HB4 : Hid (Below w3.heap.size w3 w4) := hid ((below_hp (Below.refl _ w3) (by rfl) (by rfl) (by rfl) (by rfl)).trans hb4); have q1 := (HB4.out.cell (p := ⟨p, 1, none⟩) hpl).trans hc1; have q2 := (HB4.out.cell (p := ⟨g, b * 2, none⟩) hgl).trans cb1; have q3 := (HB4.out.cell (p := ⟨g, b * 2 + 1, none⟩) hgl).trans cb2; have q4 := (HB4.out.cell (p := ⟨g, a * 2, none⟩) hgl).trans ca1; have q5 := (HB4.out.cell (p := ⟨g, a * 2 + 1, none⟩) hgl).trans ca2; clear hb4))
      go_wp2_with fail
      go_ret
      exact ⟨rfl, HB4.out⟩

end Go.Proofs.Ytmieoihjgckfhaa
