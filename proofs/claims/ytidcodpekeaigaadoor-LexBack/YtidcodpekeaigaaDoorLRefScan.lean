/- The document's Scan. -/
import Derived.Test.YtidcodpekeaigaaDoorLRefTok
import Derived.Test.YtidcodpekeaigaaDoorLScan
namespace Go.Proofs.YtidcodpekeaigaaDoor
open Go.RowKit
set_option linter.unusedVariables false

/-- How the document's Scan ends. -/
def RScanned (w : World) (r : Scn) (e : Ending) (w' : World) : Prop :=
  match r with
  | .toks l => ∃ v, e = .returned (.tuple #[v, .int .i64 0, .int .i64 0]) ∧ w'.ownsRow w.heap.size 33 4 v l.length (toks l)
  | .bad j why => e = .returned (.tuple #[.slice none 0 0, .int .i64 j, .int .i64 why])

theorem numP_why {s : ByteArray} {i d j : Nat} {why : Int} (h : numP s i d = .bad j why) : ¬ why = 0 := by
  unfold numP numD numE at h
  repeat' split at h
  all_goals first | (cases h; omega) | cases h
theorem stepP_why {s : ByteArray} {i j : Nat} {why : Int} (h : stepP s i = .bad j why) : ¬ why = 0 := by
  unfold stepP at h
  split at h
  · cases h
  split at h
  · cases h
  split at h
  · cases h
  split at h
  · cases h
  split at h
  · unfold txtP at h
    split at h
    · cases h
    · cases h
      omega
  split at h
  · exact numP_why h
  unfold wordP at h
  split at h
  · exact numP_why h
  split at h
  · cases h
  · cases h
    omega

set_option maxRecDepth 100000 in
set_option maxHeartbeats 8000000 in
theorem rscan_any (s : ByteArray) (w : World) (hs : s.size ≤ 140737488355328) :
    Calls Tryd.prog 5 #[.string s] w fun e w' => RScanned w (scanR s) e w' ∧ Below w.heap.size w w' := by
  by_cases hl : 4000 < s.size
  · have c1 : (4000 : Int) < (s.size : Int) := by omega
    have hR : scanR s = .bad 0 4 := by unfold scanR; rw [if_pos hl]
    rw [hR]
    clear hR hl hs
    go_enter Tryd.func5, Tryd.ntmps5
    go_wp2_with fail
    go_ret3
    exact ⟨rfl, Below.refl _ _⟩
  · have hR : scanR s = scanP s 0 [] := by unfold scanR; rw [if_neg hl]
    rw [hR]
    have c1 : ¬ (4000 : Int) < (s.size : Int) := by omega
    obtain ⟨R, gR⟩ : ∃ R, R = scanP s 0 [] := ⟨_, rfl⟩
    rw [← gR]
    obtain ⟨i0, hi0, hz0, hz1, hz2⟩ := info_parts Tryd.infoTT
    clear hR
    go_enter Tryd.func5, Tryd.ntmps5
    go_wp2_with fail
    go_loopw [5, 6] (fun v k wr => ∃ (i : Nat) (l : List Tok), k = .int .i64 i ∧ i ≤ s.size ∧ l.length ≤ i ∧ Hid (wr.ownsRow w.heap.size 33 4 v l.length (toks l)) ∧ Hid (Below w.heap.size w wr) ∧ Hid (R = scanP s i l)) (fun v k _ => s.size - (intOf k).toNat)
    case atStart => exact ⟨0, [], rfl, Nat.zero_le _, Nat.zero_le _, hid (World.ownsRow_nil _ _ _ _), hid (Below.refl _ _), hid gR⟩
    case round =>
      obtain ⟨i, l, rfl, hi, hll, HO, HB, HR⟩ := hrel
      by_cases hlt : i < s.size
      · have c2 : (i : Int) < (s.size : Int) := by omega
        have HX := index_bt s i hlt
        have c5 : IntKind.i64.wrap ((i : Int) + 1) = (i : Int) + 1 := by rw [IntKind.wrap_i64]; omega
        by_cases e1 : isBlank (bt s i) = true
        · have hst : stepP s i = .skip (i + 1) := by unfold stepP; rw [if_pos e1]
          have HN : Hid (R = scanP s (i + 1) l) := hid (by rw [HR.out, scanP_skip hlt hst])
          have hx : bt s i = 32 ∨ bt s i = 9 ∨ bt s i = 13 := by simpa [isBlank, or_assoc] using e1
          obtain ⟨x, gx⟩ : ∃ x, x = bt s i := ⟨_, rfl⟩
          rw [← gx] at HX hx
          clear gx e1 hst gR
          rcases hx with rfl | rfl | rfl
          all_goals
            go_wp2_with fail
            go_roundw
            case rel => exact ⟨i + 1, l, by go_num, hlt, by omega, HO, HB, HN⟩
            case measure => simp [intOf]; omega
        · have e1' : isBlank (bt s i) = false := by simpa using e1
          by_cases e2 : bt s i = 35
          · have hst : stepP s i = .skip (pass inLn s i) := by unfold stepP; rw [if_neg e1, if_pos e2]
            have HN : Hid (R = scanP s (pass inLn s i) l) := hid (by rw [HR.out, scanP_skip hlt hst])
            have hsk := stepP_skip hlt hst
            rw [e2] at HX
            obtain ⟨E, gE⟩ : ∃ E, E = pass inLn s i := ⟨_, rfl⟩
            rw [← gE] at HN hsk
            clear e1 e1' hst gR e2
            go_wp2_with fail
            go_loop [6] (fun k => ∃ m : Nat, k = .int .i64 m ∧ m ≤ s.size ∧ Hid (E = pass inLn s m)) (fun k => s.size - (intOf k).toNat)
            case atStart => exact ⟨i, rfl, hi, hid gE⟩
            case round =>
              obtain ⟨m, rfl, hm, HE⟩ := hrel
              by_cases hl2 : m < s.size
              · have c3 : (m : Int) < (s.size : Int) := by omega
                have HY := index_bt s m hl2
                by_cases e3 : bt s m = 10
                · have hE : E = m := by rw [HE.out, pass_stop (fun h => by have := h.2; rw [e3] at this; cases this)]
                  rw [e3] at HY
                  subst hE
                  clear gE e3
                  go_wp2_with fail
                  go_roundw
                  case rel => exact ⟨E, l, rfl, hm, by omega, HO, HB, HN⟩
                  case measure => simp [intOf]; omega
                · have HN2 : Hid (E = pass inLn s (m + 1)) := hid (by rw [HE.out, pass_go hl2 (by simp [inLn, e3])])
                  obtain ⟨x, gx⟩ : ∃ x, x = bt s m := ⟨_, rfl⟩
                  rw [← gx] at HY e3
                  clear gx gE
                  go_wp2_with fail
                  go_round
                  case rel => exact ⟨m + 1, by go_num, by omega, HN2⟩
                  case measure => simp [intOf]; omega
              · have hE : E = m := by rw [HE.out, pass_stop (fun h => hl2 h.1)]
                have c3 : ¬ (m : Int) < (s.size : Int) := by omega
                subst hE
                clear gE
                go_wp2_with fail
                go_roundw
                case rel => exact ⟨E, l, rfl, hm, by omega, HO, HB, HN⟩
                case measure => simp [intOf]; omega
          · have kt := hid (rtoken_any i s wr hlt (by omega) e1' e2)
            obtain ⟨x, gx⟩ : ∃ x, x = bt s i := ⟨_, rfl⟩
            have n1 : ¬ x = 32 ∧ ¬ x = 9 ∧ ¬ x = 13 := by rw [gx]; simpa [isBlank, and_assoc] using e1'
            obtain ⟨n1, n2, n3⟩ := n1
            rw [← gx] at HX e2
            obtain ⟨S, gS⟩ : ∃ S, S = stepP s i := ⟨_, rfl⟩
            rw [← gS] at kt
            have GS := hid gS
            clear gx e1 e1' gR gS
            go_wp2_with fail
            refine kt.out.mono ?_
            intro e w2 h2
            rcases S with k | ⟨t, k⟩ | ⟨j, why⟩
            · exact absurd h2 (fun h => h)
            · obtain ⟨rfl, hb2⟩ := h2
              have hst := stepP_tok hlt GS.out.symm
              have HN : Hid (R = scanP s k (l ++ [t])) := hid (by rw [HR.out, scanP_tok hlt GS.out.symm])
              have hb3 : Below wr.heap.size wr ((w2.alloc (.cells #[.int .i64 t.kind, .int .i64 t.at_, .string t.text, .int .i64 t.num] 33)).alloc (.cells #[.int .i64 t.kind, .int .i64 t.at_, .string t.text, .int .i64 t.num] 33)) :=
                (hb2.trans ((below_one w2 _).mono hb2.size)).trans ((below_one (w2.alloc (.cells #[.int .i64 t.kind, .int .i64 t.at_, .string t.text, .int .i64 t.num] 33)) _).mono (Nat.le_trans hb2.size (below_one w2 _).size))
              have HCEL : Hid (∀ a x, (tokc t)[a]? = some x → ((w2.alloc (.cells #[.int .i64 t.kind, .int .i64 t.at_, .string t.text, .int .i64 t.num] 33)).alloc (.cells #[.int .i64 t.kind, .int .i64 t.at_, .string t.text, .int .i64 t.num] 33)).cell? ((⟨w2.heap.size + 1, 0, none⟩ : Addr).add a) = some x) := by
                refine hid (fun a x hx => ?_)
                have hh := heap_alloc_new (w2.alloc (.cells #[.int .i64 t.kind, .int .i64 t.at_, .string t.text, .int .i64 t.num] 33)) (.cells #[.int .i64 t.kind, .int .i64 t.at_, .string t.text, .int .i64 t.num] 33)
                rw [show (w2.alloc (.cells #[.int .i64 t.kind, .int .i64 t.at_, .string t.text, .int .i64 t.num] 33)).heap.size = w2.heap.size + 1 by simp] at hh
                rw [Addr.add_lit, Nat.zero_add]
                exact heap_cells hh a x (by simpa [tokc] using hx)
              have HO2 := hid (own_below HO.out hb3)
              have HMX : Hid (l.length + 1 ≤ maxLen) := hid (by unfold maxLen; omega)
              have HBY : Hid ((l.length + 1) * 40 ≤ 140737488355328) := hid (by omega)
              have HBS := hid (Nat.le_trans HB.out.size hb3.size)
              have HB3 := hid (HB.out.trans (hb3.mono HB.out.size))
              clear hb2 hb3
              go_wp2_with (at_builtin; go_must (refine wpList_append_own _ rfl (.tmp 53) (.tmp 55) 22 rfl w.heap.size 33 i0 _ 4 40 Tryd.underlying22 hi0 hz0 hz1 hz2 rfl (by decide) _ l.length (toks l) rfl HO2.out ⟨w2.heap.size + 1, 0, none⟩ 1 1 (tokc t) rfl rfl HCEL.out (by simp [tokc, Value.oneCell']) HMX.out HBY.out HBS.out ?_; intro v4 w4 ho4 hg4 hn4))
              have HO4 : Hid (w4.ownsRow w.heap.size 33 4 v4 (l ++ [t]).length (toks (l ++ [t]))) := hid (by rw [List.length_append, toks_snoc]; exact ho4)
              have HB4 : Hid (Below w.heap.size w w4) := hid (HB3.out.trans ((Upd.of_grown hg4).below HBS.out (fun x hx => (HO2.out.lt x hx.symm).1)))
              clear ho4 hg4 hn4
              go_wp2_with fail
              go_roundw
              case rel => exact ⟨k, l ++ [t], rfl, hst.2, by simp; omega, HO4, HB4, HN⟩
              case measure => simp [intOf]; omega
            · obtain ⟨rfl, hb2⟩ := h2
              have HQ : Hid (R = .bad j why) := hid (by rw [HR.out, scanP_bad hlt GS.out.symm])
              have hw := stepP_why GS.out.symm
              have HB2 := hid hb2
              clear hb2
              go_wp2_with fail
              go_ret3
              rw [HQ.out]
              exact ⟨rfl, (HB.out.trans (HB2.out.mono HB.out.size)).trans ((below_one _ _).mono (Nat.le_trans HB.out.size HB2.out.size))⟩
      · have c2 : ¬ (i : Int) < (s.size : Int) := by omega
        have HQ : Hid (R = .toks l) := hid (by rw [HR.out, scanP_over hlt])
        clear gR
        go_wp2_with fail
        go_ret3
        rw [HQ.out]
        exact ⟨⟨_, rfl, HO.out⟩, HB.out⟩

end Go.Proofs.YtidcodpekeaigaaDoor
