/- What the document's Merge and Without do. -/
import Derived.Test.YtbeicpfjehbbpaaCRise
namespace Go.Proofs.Ytbeicpfjehbbpaa
open Go.RowKit
set_option linter.unusedVariables false

/-- 'append(own, l...)' of numbers that lie somewhere, nil or not. -/
theorem wpList_append_lst {P : Program} (w : World) {ops : Array Oper} {rest : List Oper} {o : Oper} {a : Act} {Q : Exit → Act → World → Prop}
    (hgd : o.guard = none) (s x : Operand) (t : TypeId) (ho : o.op = .call { callee := .builtin .append, args := #[s, x], argTypes := #[t, t] })
    (base : Nat) (i : TypeInfo) (ht : P.underlying t = some (.slice 3)) (hi : P.info? 3 = some i) (hz : i.zero = some (.int .i64 0)) (hsize : i.size = 1) (hby : i.bytes = 8)
    (v : Value) (n : Nat) (xs : List Value) (hs : a.eval s = v) (hown : w.ownsRow base 3 1 v n xs)
    (a0 : Option Addr) (m c : Nat) (zs : List Int) (hx : a.eval x = .slice a0 m c) (hsrc : Ilst w a0 m c zs) (hb : (n + m) * 8 ≤ 140737488355328) (hbase : base ≤ w.heap.size)
    (hK : ∀ v' w', w'.ownsRow base 3 1 v' (n + m) (xs ++ zs.map (Value.int .i64)) → w.grownBy w' v.ownBlock → wpList P ops Q rest (a.put o.dst v') w') :
    wpList P ops Q (o :: rest) a w := by
  cases a0 with
  | none =>
    obtain rfl := hsrc.nil rfl
    obtain rfl : m = 0 := by
      rcases Nat.eq_zero_or_pos m with h | h
      · exact h
      · obtain ⟨_, _, e, _⟩ := hsrc.cells h; cases e
    obtain rfl : zs = [] := List.eq_nil_of_length_eq_zero hsrc.size
    refine wpList_append_own_none hgd s x t ho base 3 i 1 ht hi _ n xs hs hown hx ?_
    exact hK v w (by simpa using hown) (World.grownBy.refl _ _)
  | some ad =>
    refine wpList_append_own _ hgd s x t ho base 3 i (.int .i64 0) 1 8 ht hi hz hsize hby rfl (by decide) _ n xs hs hown ad m c (zs.map (Value.int .i64)) hx (by simp [hsrc.size]) ?_ (fun u hu => by obtain ⟨z, _, rfl⟩ := List.mem_map.1 hu; rfl) (by unfold maxLen; omega) (by omega) hbase ?_
    · intro j u hj
      have hjl : j < zs.length := by have := (List.getElem?_eq_some_iff.1 hj).1; simpa using this
      have hsl := hsrc.size
      obtain ⟨b, o', e, _, hc⟩ := hsrc.cells (by omega)
      obtain rfl := Option.some.inj e
      rw [Addr.add_lit, hc j (by omega), ← hj]
      simp [List.getD, List.getElem?_eq_getElem hjl]
    · intro v' w' h1 h2 _
      exact hK v' w' h1 h2

set_option maxHeartbeats 2000000 in
set_option maxRecDepth 20000 in
theorem rmerge (a : Option Addr) (n c : Nat) (l : List Int) (b : Option Addr) (m d : Nat) (k : List Int) (w : World) (h : Ilst w a n c l) (q : Ilst w b m d k) (hn : (n + m) * 8 ≤ 140737488355328) :
    Calls Try.prog 8 #[.slice a n c, .slice b m d] w fun e w' => ∃ a' n' c' r, e = .returned (.slice a' n' c') ∧ Ilst w' a' n' c' r ∧ Rises (l ++ k) r ∧ r.length ≤ 17592186044416 ∧ Below w.heap.size w w' := by
  obtain ⟨i0, hi0, hz0, hz1, hz2⟩ := info_parts infoInt
  have hA : Below w.heap.size w (w.alloc (.cells #[] 3)) := (Below.refl _ _).alloc (Nat.le_refl _) _
  have HA : Hid ((w.alloc (.cells #[] 3)).ownsRow w.heap.size 3 1 (.slice (some ⟨w.heap.size, 0, none⟩) 0 0) 0 []) := World.ownsRow_made w #[] 0 (Nat.le_refl _) (by unfold maxLen; omega) rfl
  have HBA := hid hA
  have HL := hid (h.below hA)
  have HK := hid q
  have hl := h.size
  have hk := q.size
  clear h q hA
  go_enter Try.func8, Try.ntmps8
  go_wp2_with (at_builtin; go_must (refine wpList_append_lst _ rfl (.tmp 5) (.tmp 6) 22 rfl w.heap.size i0 Try.underlying22 hi0 hz0 hz1 hz2 _ 0 [] rfl HA.out a n c l rfl HL.out (by omega) (by simp) ?_))
  intro v1 w1 hO1 hG1
  have hB1 : Below w.heap.size w w1 := HBA.out.grown hG1 HBA.out.size (fun x hx => (HA.out.lt x hx).1)
  have HB1 := hid hB1
  have HK1 := hid (HK.out.below hB1)
  have HO1 : Hid (w1.ownsRow w.heap.size 3 1 v1 n (l.map (Value.int .i64))) := by simpa using hid hO1
  have hs1 := hB1.size
  clear hO1 hG1 hB1 HA HBA HK
  go_wp2_with (at_builtin; go_must (refine wpList_append_lst _ rfl (.tmp 7) (.tmp 8) 22 rfl w.heap.size i0 Try.underlying22 hi0 hz0 hz1 hz2 _ n (l.map (Value.int .i64)) rfl HO1.out b m d k rfl HK1.out (by omega) (by omega) ?_))
  intro v2 w2 hO2 hG2
  have hB2 : Below w.heap.size w w2 := HB1.out.grown hG2 HB1.out.size (fun x hx => (HO1.out.lt x hx).1)
  have hO3 : w2.ownsRow w.heap.size 3 1 v2 (l ++ k).length ((l ++ k).map (Value.int .i64)) := by
    have e : (l ++ k).length = n + m := by rw [List.length_append]; omega
    rw [e]; simpa using hO2
  obtain ⟨a3, c3, rfl, hc3, hI⟩ := own_lst hO3
  have HB2 := hid hB2
  have k1 := hid (rrise a3 _ c3 (l ++ k) w2 hI (by rw [List.length_append]; omega))
  have H8 : Hid ((l ++ k).length * 8 ≤ 140737488355328) := hid (by rw [List.length_append]; omega)
  clear hO2 hG2 hB2 hO3 hI hc3
  generalize (l ++ k).length = N at k1 H8 ⊢
  go_wp2_with fail
  refine k1.out.mono ?_
  rintro e w3 ⟨a4, n4, c4, r, rfl, h1, h2, h3, h4⟩
  have H1 := hid h1
  have H2 := hid h2
  have H4 := hid (HB2.out.trans (h4.mono HB2.out.size))
  have H3 : Hid (r.length ≤ 17592186044416) := hid (by have := H8.out; omega)
  clear h1 h2 h3 h4 k1
  go_wp2_with fail
  go_ret
  exact ⟨_, _, _, r, rfl, H1.out, H2.out, H3.out, H4.out⟩

/-- The numbers of l that k has not. -/
def lacks (l k : List Int) : List Int := l.filter (fun x => !k.contains x)
theorem lacks_yes {l k : List Int} {x : Int} (h : k.contains x = true) : lacks (l ++ [x]) k = lacks l k := by
  unfold lacks; rw [List.filter_append, List.filter_cons, h]; simp
theorem lacks_no {l k : List Int} {x : Int} (h : k.contains x = false) : lacks (l ++ [x]) k = lacks l k ++ [x] := by
  unfold lacks; rw [List.filter_append, List.filter_cons, h]; simp

set_option maxHeartbeats 2000000 in
set_option maxRecDepth 20000 in
theorem rwithout (a : Option Addr) (n c : Nat) (l : List Int) (b : Option Addr) (m d : Nat) (k : List Int) (w : World) (h : Ilst w a n c l) (q : Ilst w b m d k) (hn : n * 8 ≤ 140737488355328) (hm : m ≤ 9223372036854775807) :
    Calls Try.prog 9 #[.slice a n c, .slice b m d] w fun e w' => ∃ a' n' c' r, e = .returned (.slice a' n' c') ∧ Ilst w' a' n' c' r ∧ Rises (lacks l k) r ∧ Below w.heap.size w w' := by
  obtain ⟨i0, hi0, hz0, hz1, hz2⟩ := info_parts infoInt
  have HL := hid h
  have HK := hid q
  have hl := h.size
  have hk := q.size
  clear h q
  go_enter Try.func9, Try.ntmps9
  go_wp2_with fail
  go_loopw [5, 13] (fun v kk wr => ∃ i : Nat, i ≤ n ∧ kk = .int .i64 i ∧ Hid (wr.ownsRow w.heap.size 3 1 v (lacks (l.take i) k).length ((lacks (l.take i) k).map (Value.int .i64))) ∧ Hid (Below w.heap.size w wr)) (fun _ kk _ => n - (intOf kk).toNat)
  case atStart => exact ⟨0, by omega, rfl, hid (World.ownsRow_nil _ _ _ _), hid (Below.refl _ _)⟩
  case round =>
    obtain ⟨i, hi, rfl, HO, HB⟩ := hrel
    by_cases hlt : i < n
    · obtain ⟨b1, o1, rfl, hbl, hc⟩ := (HL.out.below HB.out).cells (by omega)
      have hci := hc i hlt
      have HX := hid (take_more l i (by omega))
      have HK1 := hid (HK.out.below HB.out)
      have hll : (lacks (l.take i) k).length ≤ i := by
        have := List.length_filter_le (fun x => !k.contains x) (l.take i)
        rw [List.length_take] at this
        unfold lacks; omega
      generalize l.getD i 0 = x at hci HX
      clear hc hbl
      go_wp2_with fail
      go_loop [8, 19] (fun p kk => ∃ j : Nat, j ≤ m ∧ kk = .int .i64 j ∧ p = .bool ((k.take j).contains x)) (fun _ kk => m - (intOf kk).toNat)
      case atStart => exact ⟨0, by omega, rfl, rfl⟩
      case round =>
        obtain ⟨j, hj, rfl, rfl⟩ := hrel
        by_cases hjm : j < m
        · obtain ⟨b2, o2, rfl, hbl2, hc2⟩ := HK1.out.cells (by omega)
          have hcj := hc2 j hjm
          have HY : Hid ((k.take (j + 1)).contains x = ((k.take j).contains x || decide (k.getD j 0 = x))) := by
            rw [take_more k j (by omega)]
            refine hid ?_
            rw [Bool.eq_iff_iff]
            simp only [List.contains_iff_mem, List.mem_append, List.mem_singleton, Bool.or_eq_true, decide_eq_true_eq]
            exact ⟨fun h => h.imp id Eq.symm, fun h => h.imp id Eq.symm⟩
          generalize k.getD j 0 = y at hcj HY
          clear hc2 hbl2
          cases hq : (k.take j).contains x with
          | true =>
            go_wp2_with fail
            go_round
            case rel => exact ⟨j + 1, by omega, by go_num, by rw [HY.out, hq]; rfl⟩
            case measure => simp [intOf]; omega
          | false =>
            go_wp2_with fail
            go_round
            case rel => exact ⟨j + 1, by omega, by go_num, by rw [HY.out, hq]; rfl⟩
            case measure => simp [intOf]; omega
        · obtain rfl : j = m := by omega
          have hT : k.take j = k := List.take_of_length_le (by omega)
          simp only [hT]
          cases hq : k.contains x with
          | true =>
            have HE := hid (lacks_yes (l := l.take i) hq)
            go_wp2_with fail
            go_roundw
            case rel => exact ⟨i + 1, by omega, by go_num, by rw [HX.out, HE.out]; exact HO, HB⟩
            case measure => simp [intOf]; omega
          | false =>
            have HE := hid (lacks_no (l := l.take i) hq)
            have hws := HB.out.size
            go_wp2_with (at_builtin; go_must (refine wpList_append_own _ rfl (.tmp 32) (.tmp 34) 22 rfl w.heap.size 3 i0 _ 1 8 Try.underlying22 hi0 hz0 hz1 hz2 rfl (by decide) _ (lacks (l.take i) k).length ((lacks (l.take i) k).map (Value.int .i64)) rfl (HO.out.alloc _) ⟨_, 0, none⟩ 1 1 [.int .i64 x] rfl rfl (cell_one_new _ _ _) (by simp [Value.oneCell']) (by unfold maxLen; omega) (by omega) (by simp; omega) ?_))
            intro v' w3 hO3 hG3 hN3
            have HO3 : Hid (w3.ownsRow w.heap.size 3 1 v' (lacks (l.take i ++ [x]) k).length ((lacks (l.take i ++ [x]) k).map (Value.int .i64))) := by rw [HE.out]; simpa using hid hO3
            have HB3 := hid (((HB.out.alloc HB.out.size _).grown hG3 (by simp; omega) (fun k hk => (HO.out.lt k hk).1)))
            clear hO3 hG3 hN3
            go_wp2_with fail
            go_roundw
            case rel => exact ⟨i + 1, by omega, by go_num, by rw [HX.out]; exact HO3, HB3⟩
            case measure => simp [intOf]; omega
    · obtain rfl : i = n := by omega
      have hT : l.take i = l := List.take_of_length_le (by omega)
      have hO := HO.out
      rw [hT] at hO
      have hll : (lacks l k).length ≤ i := by
        have := List.length_filter_le (fun x => !k.contains x) l
        unfold lacks; omega
      obtain ⟨a3, c3, rfl, hc3, hI⟩ := own_lst hO
      have k1 := hid (rrise a3 _ c3 (lacks l k) wr hI (by omega))
      clear hI hO HO
      go_wp2_with fail
      refine k1.out.mono ?_
      rintro e w3 ⟨a4, n4, c4, r, rfl, h1, h2, h3, h4⟩
      have H1 := hid h1
      have H2 := hid h2
      have H4 := hid (HB.out.trans (h4.mono HB.out.size))
      clear h1 h2 h3 h4 k1
      go_wp2_with fail
      go_ret
      exact ⟨_, _, _, r, rfl, H1.out, H2.out, H4.out⟩

end Go.Proofs.Ytbeicpfjehbbpaa
