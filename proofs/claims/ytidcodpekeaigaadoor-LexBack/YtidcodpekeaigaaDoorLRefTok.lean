/- The document's token. -/
import Derived.Test.YtidcodpekeaigaaDoorLRefNum
import Derived.Test.YtidcodpekeaigaaDoorLTake
namespace Go.Proofs.YtidcodpekeaigaaDoor
open Go.RowKit
set_option linter.unusedVariables false

/-- A token's four cells behind a call, and three numbers. -/
theorem tok_results {fn : Func} (h : fn.results = #[.cell 4 33, .tmp 5, .tmp 6, .tmp 7]) (tmps : Array Value) (w : World) (b : Nat) (ht : tmps.getD 4 undef = .pointer (some ⟨b, 0, none⟩)) (a1 a2 a3 a4 : Value)
    (hc : w.heap[b]? = some (.cells #[a1, a2, a3, a4] 33 (0, 0))) :
    (results fn tmps).run Tryd.prog w = .ok (.tuple #[.agg #[a1, a2, a3, a4], tmps.getD 5 undef, tmps.getD 6 undef, tmps.getD 7 undef]) w := by
  have hr : w.rangeAt b 0 [a1, a2, a3, a4] := fun j v hv => by
    rw [Nat.zero_add]
    exact heap_cells hc j v (by simpa using hv)
  have hl := run_loadVar_mid (P := Tryd.prog) w b 0 33 [a1, a2, a3, a4] _ hr Tryd.underlying33 rfl (by kernel_rfl)
  rw [Array.getD_eq_getD_getElem?] at ht
  simp [results, h, ht, asAddr, hl]

theorem extract_one {s : ByteArray} {i : Nat} (h : i < s.size) (hb : bt s i = 10) : s.extract i (i + 1) = ⟨#[10]⟩ := by
  apply ByteArray.ext
  apply Array.toList_inj.1
  unfold bt at hb
  rw [dif_pos h] at hb
  have e : s[i] = 10 := by
    apply UInt8.toNat_inj.1
    have : s[i].toNat = 10 := by omega
    rw [this]; rfl
  rw [ByteArray.data_extract, Array.toList_extract, List.extract_eq_take_drop, show i + 1 - i = 1 by omega]
  have h2 : i < s.data.toList.length := by simpa using h
  rw [List.drop_eq_getElem_cons h2]
  have e2 : s.data.toList[i] = s[i] := by rfl
  rw [e2, e]
  rfl

/-- How the document's token ends: the token and the place behind it; else the error, and where. -/
def Tells4 (w : World) (r : Stp) (e : Ending) (w' : World) : Prop :=
  match r with
  | .skip _ => False
  | .tok t k => e = .returned (.tuple #[.agg #[.int .i64 t.kind, .int .i64 t.at_, .string t.text, .int .i64 t.num], .int .i64 k, .int .i64 0, .int .i64 0]) ∧ Below w.heap.size w w'
  | .bad j why => e = .returned (.tuple #[.agg #[.int .i64 0, .int .i64 0, .string .empty, .int .i64 0], .int .i64 0, .int .i64 j, .int .i64 why]) ∧ Below w.heap.size w w'

theorem below_one (w : World) (o : Obj) : Below w.heap.size w (w.alloc o) := (Below.refl _ _).alloc (Nat.le_refl _) _

theorem isLet_not {b : Int} (h : isLet b = true) : isDig b = false ∧ isBlank b = false ∧ isMark b = false ∧ ¬ b = 35 ∧ ¬ b = 10 ∧ ¬ b = 34 ∧ ¬ b = 45 := by
  simp [isLet] at h
  refine ⟨?_, ?_, ?_, ?_, ?_, ?_, ?_⟩ <;> first | omega | (simp [isDig, isBlank, isMark] <;> omega)
theorem isDig_not {b : Int} (h : isDig b = true) : isLet b = false ∧ isBlank b = false ∧ isMark b = false ∧ ¬ b = 35 ∧ ¬ b = 10 ∧ ¬ b = 34 ∧ ¬ b = 45 := by
  simp [isDig] at h
  refine ⟨?_, ?_, ?_, ?_, ?_, ?_, ?_⟩ <;> first | omega | (simp [isLet, isBlank, isMark] <;> omega)

set_option maxRecDepth 100000 in
set_option maxHeartbeats 8000000 in
theorem rtoken_line (i : Nat) (s : ByteArray) (w : World) (hi : i < s.size) (hs : s.size ≤ 4000) (e1 : bt s i = 10) :
    Calls Tryd.prog 15 #[.string s, .int .i64 i] w (Tells4 w (stepP s i)) := by
  have HX := index_bt s i hi
  have c5 : IntKind.i64.wrap ((i : Int) + 1) = (i : Int) + 1 := by rw [IntKind.wrap_i64]; omega
  have hR : stepP s i = .tok ⟨5, i, ⟨#[10]⟩, 0⟩ (i + 1) := by
    unfold stepP
    rw [e1, extract_one hi e1]
    rfl
  rw [hR]
  rw [e1] at HX
  clear hR e1
  go_enter Tryd.func15, Tryd.ntmps15
  go_wp2_with fail
  refine bodyPost_ret (tok_results rfl _ _ w.heap.size rfl _ _ _ _ (heap_alloc_new w _)) rfl ?_
  exact ⟨rfl, below_one _ _⟩

set_option maxRecDepth 100000 in
set_option maxHeartbeats 8000000 in
theorem rtoken_name (i : Nat) (s : ByteArray) (w : World) (hi : i < s.size) (hs : s.size ≤ 4000) (e1 : isLet (bt s i) = true) :
    Calls Tryd.prog 15 #[.string s, .int .i64 i] w (Tells4 w (stepP s i)) := by
  have HX := index_bt s i hi
  obtain ⟨n0, n1, n2, n3, n4, n5, n6⟩ := isLet_not e1
  have c5 : IntKind.i64.wrap ((i : Int) + 1) = (i : Int) + 1 := by rw [IntKind.wrap_i64]; omega
  have hin : inNm (bt s i) = true := by unfold inNm; rw [e1]; rfl
  obtain ⟨E, gE⟩ : ∃ E, E = pass inNm s i := ⟨_, rfl⟩
  have hR : stepP s i = .tok ⟨1, i, s.extract i E, 0⟩ E := by
    unfold stepP wordP
    rw [if_neg (by simp [n1]), if_neg n3, if_neg (by simp [n2]), if_neg n4, if_neg n5, if_neg n6, if_neg (by simp [n0]), if_pos e1, gE]
  rw [hR]
  have kb := hid (begins_any (bt s i) (w.alloc (.cells #[.int .i64 0, .int .i64 0, .string .empty, .int .i64 0] 33)))
  rw [e1] at kb
  have hE1 : E = pass inNm s (i + 1) := by rw [gE, pass_go hi hin]
  have HEg := hid (pass_ge inNm s i)
  rw [← gE] at HEg
  have HE1 := hid hE1
  obtain ⟨c, gc⟩ : ∃ c, c = bt s i := ⟨_, rfl⟩
  rw [← gc] at HX kb n4
  clear hR gE hE1 gc n0 n1 n2 n3 n5 n6 hin e1
  go_enter Tryd.func15, Tryd.ntmps15
  go_wp2_with fail
  refine kb.out.mono ?_
  rintro e w1 ⟨rfl, rfl⟩
  go_wp2_with fail
  go_loop [9] (fun k => ∃ m : Nat, k = .int .i64 m ∧ i + 1 ≤ m ∧ m ≤ s.size ∧ Hid (E = pass inNm s m)) (fun k => s.size - (intOf k).toNat)
  case atStart => exact ⟨i + 1, by go_num, Nat.le_refl _, hi, HE1⟩
  case round =>
    obtain ⟨m, rfl, hm0, hm, HE⟩ := hrel
    have k1 := hid (rat_any m s (w.alloc (.cells #[.int .i64 0, .int .i64 0, .string .empty, .int .i64 0] 33)) (by omega))
    have k2 := hid (inner_any (bt s m) (w.alloc (.cells #[.int .i64 0, .int .i64 0, .string .empty, .int .i64 0] 33)))
    by_cases e2 : inNm (bt s m) = true
    · have hl : m < s.size := bt_lt (fun e => by rw [e] at e2; cases e2)
      have HN : Hid (E = pass inNm s (m + 1)) := hid (by rw [HE.out, pass_go hl e2])
      rw [e2] at k2
      obtain ⟨x, gx⟩ : ∃ x, x = bt s m := ⟨_, rfl⟩
      rw [← gx] at k1 k2
      clear gx e2
      go_wp2_with fail
      refine k1.out.mono ?_
      rintro e w1 ⟨rfl, rfl⟩
      go_wp2_with fail
      refine k2.out.mono ?_
      rintro e w1 ⟨rfl, rfl⟩
      go_wp2_with fail
      go_round
      case rel => exact ⟨m + 1, by go_num, by omega, hl, HN⟩
      case measure => simp [intOf]; omega
    · have hE : E = m := by rw [HE.out, pass_stop (fun h => e2 h.2)]
      have e2' : inNm (bt s m) = false := by simpa using e2
      rw [e2'] at k2
      obtain ⟨x, gx⟩ : ∃ x, x = bt s m := ⟨_, rfl⟩
      rw [← gx] at k1 k2
      subst hE
      have hsl : ∀ W : World, (Instr.slice 9 (.string s) (some (.int .i64 i)) (some (.int .i64 E)) none).run Tryd.prog W = .ok (.string (s.extract i E)) W := fun W => by
        rw [run_slice_string W 9 s .i64 .i64 i E Tryd.underlying9 (by omega) (by have := HEg.out; omega) (by omega)]; rfl
      obtain ⟨X, gX⟩ : ∃ X, X = s.extract i E := ⟨_, rfl⟩
      rw [← gX] at hsl
      have GX := hid gX
      clear gx e2 e2' gX
      go_wp2_with fail
      refine k1.out.mono ?_
      rintro e w1 ⟨rfl, rfl⟩
      go_wp2_with fail
      refine k2.out.mono ?_
      rintro e w1 ⟨rfl, rfl⟩
      go_wp2_with fail
      refine bodyPost_ret (tok_results rfl _ _ w.heap.size rfl _ _ _ _ (heap_alloc_new w _)) rfl ?_
      exact ⟨by rw [GX.out]; rfl, below_one _ _⟩

set_option maxRecDepth 100000 in
set_option maxHeartbeats 8000000 in
theorem rtoken_num (i d : Nat) (s : ByteArray) (w : World) (hi : i < s.size) (hs : s.size ≤ 4000) (hd : (bt s i = 45 ∧ d = i + 1) ∨ (¬ bt s i = 45 ∧ d = i)) (hg : isDig (bt s d) = true) (hR : stepP s i = numP s i d)
    (n1 : isLet (bt s i) = false) (n4 : ¬ bt s i = 10) :
    Calls Tryd.prog 15 #[.string s, .int .i64 i] w (Tells4 w (stepP s i)) := by
  have HX := index_bt s i hi
  have c5 : IntKind.i64.wrap ((i : Int) + 1) = (i : Int) + 1 := by rw [IntKind.wrap_i64]; omega
  obtain ⟨W0, gW⟩ : ∃ W0, W0 = w.alloc (.cells #[.int .i64 0, .int .i64 0, .string .empty, .int .i64 0] 33) := ⟨_, rfl⟩
  have kb := hid (begins_any (bt s i) (w.alloc (.cells #[.int .i64 0, .int .i64 0, .string .empty, .int .i64 0] 33)))
  have kd := hid (rdigit_any (bt s i) (w.alloc (.cells #[.int .i64 0, .int .i64 0, .string .empty, .int .i64 0] 33)))
  have ka := hid (rat_any (i + 1) s (w.alloc (.cells #[.int .i64 0, .int .i64 0, .string .empty, .int .i64 0] 33)) (by omega))
  have ke := hid (rdigit_any (bt s (i + 1)) (w.alloc (.cells #[.int .i64 0, .int .i64 0, .string .empty, .int .i64 0] 33)))
  have kn := hid (rnumber_any i d s (w.alloc (.cells #[.int .i64 0, .int .i64 0, .string .empty, .int .i64 0] 33)) hi hs hd hg)
  rw [hR]
  have hk : ∀ t k, numP s i d = .tok t k → i < k ∧ k ≤ s.size ∧ t = ⟨2, i, s.extract i k, t.num⟩ := fun t k h => by
    have h2 := numP_tok (by rcases hd with h | h <;> omega) h
    refine ⟨h2.1, h2.2, ?_⟩
    unfold numP numD numE at h
    repeat' split at h
    all_goals first | (cases h; rfl) | cases h
  have hbad : ∀ j why, numP s i d = .bad j why → ¬ why = 0 := fun j why h => by
    unfold numP numD numE at h
    repeat' split at h
    all_goals first | (cases h; omega) | cases h
  have HK := hid hk
  have HBD := hid hbad
  have HN : Hid (∀ k, numP s i d ≠ .skip k) := hid (fun k => numP_not)
  obtain ⟨R, gR⟩ : ∃ R, R = numP s i d := ⟨_, rfl⟩
  rw [← gR] at kn HK HN HBD ⊢
  rw [n1] at kb
  clear gR hR hk gW hbad
  by_cases e1 : bt s i = 45
  · have hd' : d = i + 1 := by rcases hd with h | h; exact h.2; exact absurd e1 h.1
    subst hd'
    rw [e1] at kb kd HX
    have e2 : isDig 45 = false := by decide
    rw [e2] at kd
    rw [hg] at ke
    obtain ⟨x, gx⟩ : ∃ x, x = bt s (i + 1) := ⟨_, rfl⟩
    rw [← gx] at ka ke
    clear gx hd hg e1 e2 n1 n4
    go_enter Tryd.func15, Tryd.ntmps15
    go_wp2_with fail
    refine kb.out.mono ?_
    rintro e w1 ⟨rfl, rfl⟩
    go_wp2_with fail
    refine kd.out.mono ?_
    rintro e w1 ⟨rfl, rfl⟩
    go_wp2_with fail
    refine ka.out.mono ?_
    rintro e w1 ⟨rfl, rfl⟩
    go_wp2_with fail
    refine ke.out.mono ?_
    rintro e w1 ⟨rfl, rfl⟩
    go_wp2_with fail
    refine kn.out.mono ?_
    rintro e w1 ⟨rfl, rfl⟩
    rcases R with k | ⟨t, k⟩ | ⟨j, why⟩
    · exact absurd rfl (HN.out k)
    · obtain ⟨f1, f2, f3⟩ := HK.out t k rfl
      have hsl : ∀ W : World, (Instr.slice 9 (.string s) (some (.int .i64 i)) (some (.int .i64 k)) none).run Tryd.prog W = .ok (.string (s.extract i k)) W := fun W => by
        rw [run_slice_string W 9 s .i64 .i64 i k Tryd.underlying9 (by omega) (by omega) (by omega)]; rfl
      obtain ⟨X, gX⟩ : ∃ X, X = s.extract i k := ⟨_, rfl⟩
      rw [← gX] at hsl f3
      have F3 := hid f3
      clear f3 gX
      simp only [told]
      go_wp2_with fail
      refine bodyPost_ret (tok_results rfl _ _ w.heap.size rfl _ _ _ _ (heap_alloc_new w _)) rfl ?_
      refine ⟨?_, below_one _ _⟩
      rw [F3.out]
      rfl
    · have hw := HBD.out j why rfl
      simp only [told]
      go_wp2_with fail
      refine bodyPost_ret (tok_results rfl _ _ w.heap.size rfl _ _ _ _ (heap_alloc_new w _)) rfl ?_
      exact ⟨rfl, below_one _ _⟩
  · have hd' : d = i := by rcases hd with h | h; exact absurd h.1 e1; exact h.2
    subst hd'
    rw [hg] at kd
    obtain ⟨x, gx⟩ : ∃ x, x = bt s d := ⟨_, rfl⟩
    rw [← gx] at kb kd HX n4
    clear gx hd hg e1 n1 ka ke
    go_enter Tryd.func15, Tryd.ntmps15
    go_wp2_with fail
    refine kb.out.mono ?_
    rintro e w1 ⟨rfl, rfl⟩
    go_wp2_with fail
    refine kd.out.mono ?_
    rintro e w1 ⟨rfl, rfl⟩
    go_wp2_with fail
    refine kn.out.mono ?_
    rintro e w1 ⟨rfl, rfl⟩
    rcases R with k | ⟨t, k⟩ | ⟨j, why⟩
    · exact absurd rfl (HN.out k)
    · obtain ⟨f1, f2, f3⟩ := HK.out t k rfl
      have hsl : ∀ W : World, (Instr.slice 9 (.string s) (some (.int .i64 d)) (some (.int .i64 k)) none).run Tryd.prog W = .ok (.string (s.extract d k)) W := fun W => by
        rw [run_slice_string W 9 s .i64 .i64 d k Tryd.underlying9 (by omega) (by omega) (by omega)]; rfl
      obtain ⟨X, gX⟩ : ∃ X, X = s.extract d k := ⟨_, rfl⟩
      rw [← gX] at hsl f3
      have F3 := hid f3
      clear f3 gX
      simp only [told]
      go_wp2_with fail
      refine bodyPost_ret (tok_results rfl _ _ w.heap.size rfl _ _ _ _ (heap_alloc_new w _)) rfl ?_
      refine ⟨?_, below_one _ _⟩
      rw [F3.out]
      rfl
    · have hw := HBD.out j why rfl
      simp only [told]
      go_wp2_with fail
      refine bodyPost_ret (tok_results rfl _ _ w.heap.size rfl _ _ _ _ (heap_alloc_new w _)) rfl ?_
      exact ⟨rfl, below_one _ _⟩

set_option maxRecDepth 100000 in
set_option maxHeartbeats 8000000 in
theorem rtoken_text (i : Nat) (s : ByteArray) (w : World) (hi : i < s.size) (hs : s.size ≤ 4000) (e1 : bt s i = 34) :
    Calls Tryd.prog 15 #[.string s, .int .i64 i] w (Tells4 w (stepP s i)) := by
  have HX := index_bt s i hi
  have c5 : IntKind.i64.wrap ((i : Int) + 1) = (i : Int) + 1 := by rw [IntKind.wrap_i64]; omega
  have kb := hid (begins_any (bt s i) (w.alloc (.cells #[.int .i64 0, .int .i64 0, .string .empty, .int .i64 0] 33)))
  have kd := hid (rdigit_any (bt s i) (w.alloc (.cells #[.int .i64 0, .int .i64 0, .string .empty, .int .i64 0] 33)))
  have kt := rtext_any i s (w.alloc (.cells #[.int .i64 0, .int .i64 0, .string .empty, .int .i64 0] 33)) hi hs
  have hR : stepP s i = txtP s i := by unfold stepP; rw [e1]; rfl
  rw [hR]
  rw [e1] at HX kb kd
  rw [show isLet 34 = false by decide] at kb
  rw [show isDig 34 = false by decide] at kd
  have hpg := pass_ge inTx s (i + 1)
  unfold txtP
  by_cases e2 : bt s (pass inTx s (i + 1)) = 34
  · have hpl : pass inTx s (i + 1) < s.size := bt_lt (by rw [e2]; decide)
    rw [if_pos e2] at kt ⊢
    obtain ⟨E, gE⟩ : ∃ E, E = pass inTx s (i + 1) := ⟨_, rfl⟩
    rw [← gE] at kt hpl hpg ⊢
    have KT := hid kt
    have c6 : IntKind.i64.wrap ((E : Int) + 1) = (E : Int) + 1 := by rw [IntKind.wrap_i64]; omega
    have hsl : ∀ W : World, (Instr.slice 9 (.string s) (some (.int .i64 ((i : Int) + 1))) (some (.int .i64 E)) none).run Tryd.prog W = .ok (.string (s.extract (i + 1) E)) W := fun W => by
      rw [run_slice_string W 9 s .i64 .i64 ((i : Int) + 1) E Tryd.underlying9 (by omega) (by omega) (by omega)]; rfl
    obtain ⟨X, gX⟩ : ∃ X, X = s.extract (i + 1) E := ⟨_, rfl⟩
    rw [← gX] at hsl ⊢
    clear gE gX e1 e2 kt hR hpl hpg
    go_enter Tryd.func15, Tryd.ntmps15
    go_wp2_with fail
    refine kb.out.mono ?_
    rintro e w1 ⟨rfl, rfl⟩
    go_wp2_with fail
    refine kd.out.mono ?_
    rintro e w1 ⟨rfl, rfl⟩
    go_wp2_with fail
    refine KT.out.mono ?_
    rintro e w1 ⟨rfl, rfl⟩
    go_wp2_with fail
    refine bodyPost_ret (tok_results rfl _ _ w.heap.size rfl _ _ _ _ (heap_alloc_new w _)) rfl ?_
    exact ⟨rfl, below_one _ _⟩
  · rw [if_neg e2] at kt ⊢
    have KT := hid kt
    clear e1 e2 kt hR hpg
    go_enter Tryd.func15, Tryd.ntmps15
    go_wp2_with fail
    refine kb.out.mono ?_
    rintro e w1 ⟨rfl, rfl⟩
    go_wp2_with fail
    refine kd.out.mono ?_
    rintro e w1 ⟨rfl, rfl⟩
    go_wp2_with fail
    refine KT.out.mono ?_
    rintro e w1 ⟨rfl, rfl⟩
    go_wp2_with fail
    refine bodyPost_ret (tok_results rfl _ _ w.heap.size rfl _ _ _ _ (heap_alloc_new w _)) rfl ?_
    exact ⟨rfl, below_one _ _⟩

/-- What is no line's end, name, number or text: a mark, or nothing. -/
theorem rtoken_mark (i : Nat) (s : ByteArray) (w : World) (hi : i < s.size) (hs : s.size ≤ 4000) (n0 : ¬ bt s i = 10) (n1 : isLet (bt s i) = false) (n2 : isDig (bt s i) = false) (n3 : bt s i = 45 → isDig (bt s (i + 1)) = false) (n4 : ¬ bt s i = 34) (m : Bool) (hm : isMark (bt s i) = m) :
    Calls Tryd.prog 15 #[.string s, .int .i64 i] w (Tells4 w (if m = true then .tok ⟨4, i, s.extract i (i + 1), 0⟩ (i + 1) else .bad i 120)) := by
  have HX := index_bt s i hi
  have c5 : IntKind.i64.wrap ((i : Int) + 1) = (i : Int) + 1 := by rw [IntKind.wrap_i64]; omega
  have kb := hid (begins_any (bt s i) (w.alloc (.cells #[.int .i64 0, .int .i64 0, .string .empty, .int .i64 0] 33)))
  have kd := hid (rdigit_any (bt s i) (w.alloc (.cells #[.int .i64 0, .int .i64 0, .string .empty, .int .i64 0] 33)))
  have km := hid (mark_any (bt s i) (w.alloc (.cells #[.int .i64 0, .int .i64 0, .string .empty, .int .i64 0] 33)))
  have ka := hid (rat_any (i + 1) s (w.alloc (.cells #[.int .i64 0, .int .i64 0, .string .empty, .int .i64 0] 33)) (by omega))
  have ke := hid (rdigit_any (bt s (i + 1)) (w.alloc (.cells #[.int .i64 0, .int .i64 0, .string .empty, .int .i64 0] 33)))
  have hsl : ∀ W : World, (Instr.slice 9 (.string s) (some (.int .i64 i)) (some (.int .i64 ((i : Int) + 1))) none).run Tryd.prog W = .ok (.string (s.extract i (i + 1))) W := fun W => by
    rw [run_slice_string W 9 s .i64 .i64 i ((i : Int) + 1) Tryd.underlying9 (by omega) (by omega) (by omega)]; rfl
  obtain ⟨X, gX⟩ : ∃ X, X = s.extract i (i + 1) := ⟨_, rfl⟩
  rw [← gX] at hsl ⊢
  rw [n1] at kb
  rw [n2] at kd
  rw [hm] at km
  by_cases e1 : bt s i = 45
  · rw [n3 e1] at ke
    have hm2 : m = false := by rw [← hm, e1]; rfl
    subst hm2
    rw [e1] at kb kd km HX
    obtain ⟨x, gx⟩ : ∃ x, x = bt s (i + 1) := ⟨_, rfl⟩
    rw [← gx] at ka ke
    clear gx gX n0 n1 n2 n3 n4 hm e1
    go_enter Tryd.func15, Tryd.ntmps15
    go_wp2_with fail
    refine kb.out.mono ?_
    rintro e w1 ⟨rfl, rfl⟩
    go_wp2_with fail
    refine kd.out.mono ?_
    rintro e w1 ⟨rfl, rfl⟩
    go_wp2_with fail
    refine ka.out.mono ?_
    rintro e w1 ⟨rfl, rfl⟩
    go_wp2_with fail
    refine ke.out.mono ?_
    rintro e w1 ⟨rfl, rfl⟩
    go_wp2_with fail
    refine km.out.mono ?_
    rintro e w1 ⟨rfl, rfl⟩
    go_wp2_with fail
    refine bodyPost_ret (tok_results rfl _ _ w.heap.size rfl _ _ _ _ (heap_alloc_new w _)) rfl ?_
    exact ⟨rfl, below_one _ _⟩
  · obtain ⟨x, gx⟩ : ∃ x, x = bt s i := ⟨_, rfl⟩
    rw [← gx] at kb kd km HX n0 n4 e1
    clear gx gX n1 n2 n3 hm ka ke
    cases m
    · go_enter Tryd.func15, Tryd.ntmps15
      go_wp2_with fail
      refine kb.out.mono ?_
      rintro e w1 ⟨rfl, rfl⟩
      go_wp2_with fail
      refine kd.out.mono ?_
      rintro e w1 ⟨rfl, rfl⟩
      go_wp2_with fail
      refine km.out.mono ?_
      rintro e w1 ⟨rfl, rfl⟩
      go_wp2_with fail
      refine bodyPost_ret (tok_results rfl _ _ w.heap.size rfl _ _ _ _ (heap_alloc_new w _)) rfl ?_
      exact ⟨rfl, below_one _ _⟩
    · go_enter Tryd.func15, Tryd.ntmps15
      go_wp2_with fail
      refine kb.out.mono ?_
      rintro e w1 ⟨rfl, rfl⟩
      go_wp2_with fail
      refine kd.out.mono ?_
      rintro e w1 ⟨rfl, rfl⟩
      go_wp2_with fail
      refine km.out.mono ?_
      rintro e w1 ⟨rfl, rfl⟩
      go_wp2_with fail
      refine bodyPost_ret (tok_results rfl _ _ w.heap.size rfl _ _ _ _ (heap_alloc_new w _)) rfl ?_
      exact ⟨rfl, below_one _ _⟩

theorem rtoken_any (i : Nat) (s : ByteArray) (w : World) (hi : i < s.size) (hs : s.size ≤ 4000) (h1 : isBlank (bt s i) = false) (h2 : ¬ bt s i = 35) :
    Calls Tryd.prog 15 #[.string s, .int .i64 i] w (Tells4 w (stepP s i)) := by
  by_cases e1 : bt s i = 10
  · exact rtoken_line i s w hi hs e1
  by_cases e2 : isLet (bt s i) = true
  · exact rtoken_name i s w hi hs e2
  have e2' : isLet (bt s i) = false := by simpa using e2
  by_cases e3 : isDig (bt s i) = true
  · obtain ⟨d0, d1, d2, d3, d4, d5, d6⟩ := isDig_not e3
    refine rtoken_num i i s w hi hs (.inr ⟨d6, rfl⟩) e3 ?_ e2' e1
    unfold stepP wordP
    rw [if_neg (by simp [d1]), if_neg d3, if_neg (by simp [d2]), if_neg d4, if_neg d5, if_neg d6, if_pos e3]
  have e3' : isDig (bt s i) = false := by simpa using e3
  by_cases e4 : bt s i = 34
  · exact rtoken_text i s w hi hs e4
  by_cases e5 : bt s i = 45
  · have hst : stepP s i = numP s i (i + 1) := by unfold stepP; rw [e5]; rfl
    by_cases e6 : isDig (bt s (i + 1)) = true
    · exact rtoken_num i (i + 1) s w hi hs (.inl ⟨e5, rfl⟩) e6 hst e2' e1
    · have e6' : isDig (bt s (i + 1)) = false := by simpa using e6
      rw [hst, numP_none e6']
      have := rtoken_mark i s w hi hs e1 e2' e3' (fun _ => e6') e4 false (by rw [e5]; rfl)
      simpa using this
  have := rtoken_mark i s w hi hs e1 e2' e3' (fun h => absurd h e5) e4 _ rfl
  have hst : stepP s i = if isMark (bt s i) = true then .tok ⟨4, i, s.extract i (i + 1), 0⟩ (i + 1) else .bad i 120 := by
    unfold stepP wordP
    rw [if_neg (by simp [h1]), if_neg h2, if_neg e1, if_neg e4, if_neg e5, if_neg e3, if_neg e2]
  rw [hst]
  exact this

end Go.Proofs.YtidcodpekeaigaaDoor
