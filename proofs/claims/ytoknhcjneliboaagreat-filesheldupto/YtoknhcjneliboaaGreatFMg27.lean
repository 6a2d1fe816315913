/- Texts of this seat, merged. -/
import Derived.Test.YtoknhcjneliboaaGreatFMg26
import Derived.Laws.AppendOwnNone
import Derived.Test.YtoknhcjneliboaaGreatFMg25

/- 'append(own, b...)' of bytes as it runs (as in FAppR, FAt). -/
namespace Go.Proofs.YtoknhcjneliboaaGreat
open Go.RowKit Go.ChangeMaps Go.MapKept
set_option linter.unusedVariables false
set_option maxRecDepth 20000

/-- 'append(own, b...)' of bytes, either of which may be nil, as it runs. -/
theorem run_append_bytes {P : Program} (w : World) (base : Nat) (t ty : TypeId) (i : TypeInfo) (ht : P.underlying t = some (.slice 5)) (hi : P.info? 5 = some i) (hz : i.zero = some (.int .u8 0)) (hsize : i.size = 1) (hby : i.bytes = 1)
    (v : Value) (n : Nat) (xs : List Value) (hown : w.ownsRow base 5 1 v n xs) (a0 : Option Addr) (m c : Nat) (zs : List Int) (hsrc : Src w a0 m zs) (hnil : a0 = none → c = 0) (hb : n + m ≤ 140737488355328) (hbase : base ≤ w.heap.size) :
    ∃ v' w', (Builtin.append_ #[t, t] ty #[v, .slice a0 m c]).run P w = .ok v' w' ∧ w'.ownsRow base 5 1 v' (n + m) (xs ++ zs.map (Value.int .u8)) ∧ w.grownBy w' v.ownBlock := by
  cases a0 with
  | none =>
    obtain rfl := hnil rfl
    obtain rfl : m = 0 := by
      rcases Nat.eq_zero_or_pos m with h | h
      · exact h
      · obtain ⟨_, _, e, _⟩ := hsrc.2 h; cases e
    obtain rfl : zs = [] := List.eq_nil_of_length_eq_zero hsrc.1
    refine ⟨v, w, ?_, by simpa using hown, World.grownBy.refl _ _⟩
    rcases hown.2 with ⟨rfl, rfl⟩ | ⟨g, cap, cur, rfl, hb, hg, hnc, hcm, hcs, htake⟩
    · simp [Builtin.append_, run_underlying ht, Builtin.lenOf, Builtin.firstCells, sizeOf, typeInfo, hi]
    · simp [Builtin.append_, run_underlying ht, Builtin.lenOf, Builtin.firstCells, sizeOf, typeInfo, hi, loadCells, hnc, storeCells]
  | some ad =>
    have hsl := hsrc.1
    obtain ⟨v', w', h1, h2, h3, _⟩ := run_append_own (P := P) w base t ty 5 i (.int .u8 0) 1 1 ht hi hz hsize hby rfl (by decide) v n xs hown ad m c (zs.map (Value.int .u8)) (by simp [hsl]) (fun j u hj => by
      have hjl : j < zs.length := by have := (List.getElem?_eq_some_iff.1 hj).1; simpa using this
      obtain ⟨b, o', e, _, hc⟩ := hsrc.2 (by omega)
      obtain rfl := Option.some.inj e
      rw [Addr.add_lit, hc j (by omega), ← hj]
      simp [List.getD, List.getElem?_eq_getElem hjl]) (fun u hu => by obtain ⟨z, _, rfl⟩ := List.mem_map.1 hu; rfl) (by unfold maxLen; omega) (by omega) hbase
    exact ⟨v', w', h1, h2, h3⟩

/-- 'append' as it is known to run, also behind a guard that holds. -/
theorem wpList_append_is {P : Program} {w : World} {ops : Array Oper} {rest : List Oper} {o : Oper} {a : Act} {Q : Exit → Act → World → Prop} (hw : Region.wanted o (yielded ops a.tmps) = true) (s x : Operand) (t : TypeId)
    (ho : o.op = .call { callee := .builtin .append, args := #[s, x], argTypes := #[t, t] }) (vs vx v' : Value) (w' : World) (hs : a.eval s = vs) (hx : a.eval x = vx) (hrun : (Builtin.append_ #[t, t] o.type #[vs, vx]).run P w = .ok v' w')
    (h : wpList P ops Q rest (a.put o.dst v') w') : wpList P ops Q (o :: rest) a w := by
  refine wpList_step fun K hK => ?_
  rw [if_pos hw]
  unfold Oper.wp
  simp [execOp, ho, resolve, invoke, builtin, hs, hx, hrun, Result.andThen]
  exact hK _ _ h

end Go.Proofs.YtoknhcjneliboaaGreat

/- The document's Read. -/
namespace Go.Proofs.YtoknhcjneliboaaGreat
open Go.RowKit
set_option linter.unusedVariables false
set_option maxRecDepth 20000

theorem file_is {F : Fs} (hF : FOk F) {n : Int} (h : F.file n = 0) : ∃ i : Nat, n = (i : Int) ∧ 1 ≤ i ∧ i < 17 ∧ (F.P i).k = 1 := by
  unfold Fs.file at h
  split at h
  · omega
  · rename_i ht
    obtain ⟨i, rfl, h1, h2, h3⟩ := there_is (by simpa using ht)
    split at h
    · omega
    · rename_i hk
      rcases hF.k i with q | q | q
      · exact absurd q h3
      · exact ⟨i, rfl, h1, h2, q⟩
      · exact absurd q hk

theorem own_empty (w : World) (ty : TypeId) : (w.alloc (Obj.cells #[] ty)).ownsRow w.heap.size ty 1 (.slice (some ⟨w.heap.size, 0, none⟩) 0 0) 0 [] :=
  ⟨rfl, .inr ⟨w.heap.size, 0, #[], rfl, Nat.le_refl _, heap_alloc_new _ _, Nat.le_refl _, by unfold maxLen; omega, rfl, rfl⟩⟩

/-- What append onto nothing leaves. -/
theorem app_new (w : World) (a0 : Option Addr) (m c : Nat) (zs : List Int) (hsrc : Src w a0 m zs) (hnil : a0 = none → c = 0) (hb : m ≤ 1000000) :
    ∃ va vc w', (Builtin.append_ #[30, 30] 30 #[.slice (some ⟨w.heap.size, 0, none⟩) 0 0, .slice a0 m c]).run Tryz.prog (w.alloc (Obj.cells #[] 5)) = .ok (.slice va m vc) w' ∧ Hid (w'.ownsRow w.heap.size 5 1 (.slice va m vc) m (zs.map (Value.int .u8)) ∧ Below w.heap.size w w') := by
  obtain ⟨i0, hi0, hz0, hz1, hz2⟩ := info_parts Tryz.cinfo5
  obtain ⟨v', w', h1, h2, h3⟩ := run_append_bytes (P := Tryz.prog) (w.alloc (Obj.cells #[] 5)) w.heap.size 30 30 i0 Tryz.underlying30 hi0 hz0 hz1 hz2 _ 0 [] (own_empty w 5) a0 m c zs (hsrc.below ((Below.refl _ w).alloc (Nat.le_refl _) _)) hnil (by omega) (by simp)
  have hO : w'.ownsRow w.heap.size 5 1 v' m (zs.map (Value.int .u8)) := by simpa using h2
  obtain ⟨va, vc, rfl, _⟩ := own_shp hO
  exact ⟨va, vc, w', h1, hid ⟨hO, ((Below.refl w.heap.size w).alloc (Nat.le_refl _) _).grown h3 (by simp) (fun x hx => by simp [Value.ownBlock] at hx; omega)⟩⟩

set_option maxHeartbeats 2000000 in
theorem rread_ok (x g u : Nat) (V : Nat → Value) (F : Fs) (w : World) (H : Rf w x g u V F) (hF : FOk F) (i : Nat) (i1 : 1 ≤ i) (i2 : i < 17) (hf : F.file (i : Int) = 0) (off cnt : Nat) (ho : off ≤ 9223372036854775807) (hc : cnt ≤ 9223372036854775807) :
    Calls Tryz.prog 67 #[.pointer (some ⟨x, 0, none⟩), .int .i64 (i : Int), .int .i64 (off : Int), .int .i64 (cnt : Int)] w fun e w' => (∃ v, e = .returned (.tuple #[v, .int .i64 0]) ∧ w'.ownsRow w.heap.size 5 1 v (((F.P i).c.drop off).take cnt).length ((((F.P i).c.drop off).take cnt).map (Value.int .u8))) ∧ Below w.heap.size w w' := by
  have k1 := hid (rfile_any x g u V F w H (i : Int))
  rw [hf] at k1
  have c0 := H.c0
  have c4 := H.b i i2
  have hrow := H.rb i i2
  have hL96 := (hF.c i).1
  obtain ⟨C, gC⟩ : ∃ C, C = (F.P i).c := ⟨_, rfl⟩
  rw [← gC] at hrow hL96 ⊢
  obtain ⟨L, gL⟩ : ∃ L, L = C.length := ⟨_, rfl⟩
  rw [← gL] at hrow hL96
  have a1 : ¬ (off : Int) < 0 := by omega
  have a2 : ¬ (cnt : Int) < 0 := by omega
  have n0 : (0 : Int) ≤ (i : Int) := by omega
  have n1 : (i : Int) < 17 := by omega
  obtain ⟨m, gm⟩ : ∃ m, m = min off L := ⟨_, rfl⟩
  have hmin : min (off : Int) (L : Int) = (m : Int) := by omega
  have b1 : (0 : Int) ≤ (m : Int) := by omega
  have b2 : (m : Int) ≤ (L : Int) := by omega
  have hms : m ≤ L := by omega
  obtain ⟨r, gr⟩ : ∃ r, r = min cnt (L - m) := ⟨_, rfl⟩
  have hmin2 : min (cnt : Int) ((L - m : Nat) : Int) = (r : Int) := by omega
  have b4 : (0 : Int) ≤ (r : Int) := by omega
  have b5 : r ≤ L - m := by omega
  obtain ⟨Z, gZ⟩ : ∃ Z, Z = (C.drop off).take cnt := ⟨_, rfl⟩
  have hZ : Z.length = r := by rw [gZ, List.length_take, List.length_drop]; omega
  rw [← gZ, hZ]
  have hZj : ∀ j, j < r → Z.getD j 0 = C.getD (m + j) 0 := fun j hj => by
    rw [gZ, List.getD_eq_getElem?_getD, List.getD_eq_getElem?_getD, List.getElem?_take_of_lt (by omega), List.getElem?_drop, show off + j = m + j by omega]
  rcases hrow.2 with ⟨e, hL0⟩ | ⟨q, c, cur, e, _, hq, hLc, hcm, _⟩
  · subst hL0
    have hr0 : r = 0 := by omega
    have hm0 : m = 0 := by omega
    obtain rfl : Z = [] := List.eq_nil_of_length_eq_zero (by rw [hZ, hr0])
    subst hr0 hm0
    rw [e] at c4
    have q1 : min (cnt : Int) 0 = 0 := by omega
    have q2 : min (off : Int) 0 = 0 := by omega
    clear H hF hf e gm gr hrow gC gL gZ hZ hZj hmin hmin2
    go_enter Tryz.func67, Tryz.ntmps67
    go_wp2_with fail
    refine k1.out.mono ?_
    rintro e w1 ⟨rfl, rfl⟩
    clear k1
    go_wp2_with fail
    go_ret2
    exact ⟨⟨_, rfl, own_empty w1 5⟩, (Below.refl _ w1).alloc (Nat.le_refl _) _⟩
  · rw [e] at c4 hrow
    have hsrc0 := Src.own hrow
    have b3 : (L : Int) ≤ (c : Int) := by omega
    have b6 : (r : Int) ≤ ((c - m : Nat) : Int) := by omega
    have hcm2 : c ≤ 9223372036854775807 := by simpa [maxLen] using hcm
    have HS : Hid (∀ o, (0 < r → o = m) → Src w (some ⟨q, o, none⟩) r Z) := hid (fun o ho => by
      refine ⟨hZ, fun h0 => ?_⟩
      obtain ⟨b, o', e', hb, hcc⟩ := hsrc0.2 (by omega)
      simp only [Option.some.injEq, Addr.mk.injEq] at e'
      obtain ⟨rfl, rfl, _⟩ := e'
      refine ⟨_, o, rfl, hb, fun j hj => ?_⟩
      rw [hZj j hj, ho h0]
      have := hcc (m + j) (by omega)
      rwa [Nat.zero_add] at this)
    by_cases hcm : c = m
    · have hr0 : r = 0 := by omega
      obtain rfl : Z = [] := List.eq_nil_of_length_eq_zero (by rw [hZ, hr0])
      subst hr0
      clear H hF hf e gm gr HS hrow hsrc0 gC gL gZ hZ hZj hq
      go_enter Tryz.func67, Tryz.ntmps67
      go_wp2_with fail
      refine k1.out.mono ?_
      rintro e w1 ⟨rfl, rfl⟩
      clear k1
      go_wp2_with fail
      go_ret2
      exact ⟨⟨_, rfl, own_empty w1 5⟩, (Below.refl _ w1).alloc (Nat.le_refl _) _⟩
    · obtain ⟨va, vc, w', hrun, HW⟩ := app_new w (some ⟨q, m, none⟩) r (c - m) Z (HS.out m (fun _ => rfl)) (fun h => by cases h) (by omega)
      have HRUN := hid hrun
      clear H hF hf e gm gr HS hrow hsrc0 gC gL gZ hZ hZj hq hrun
      go_enter Tryz.func67, Tryz.ntmps67
      go_wp2_with fail
      refine k1.out.mono ?_
      rintro e w1 ⟨rfl, rfl⟩
      clear k1
      go_wp2_with (at_builtin; refine wpList_append_is rfl (.tmp 38) (.tmp 44) 30 rfl _ _ _ _ rfl rfl HRUN.out ?_)
      go_ret2
      exact ⟨⟨_, rfl, HW.out.1⟩, HW.out.2⟩

set_option maxHeartbeats 2000000 in
theorem rread_any (x g u : Nat) (V : Nat → Value) (F : Fs) (w : World) (H : Rf w x g u V F) (hF : FOk F) (n off cnt : Int) (ho : off ≤ 9223372036854775807) (hc : cnt ≤ 9223372036854775807) :
    Calls Tryz.prog 67 #[.pointer (some ⟨x, 0, none⟩), .int .i64 n, .int .i64 off, .int .i64 cnt] w fun e w' => (∃ v, e = .returned (.tuple #[v, .int .i64 (F.read n off cnt).2]) ∧ w'.ownsRow w.heap.size 5 1 v (F.read n off cnt).1.length ((F.read n off cnt).1.map (Value.int .u8))) ∧ Below w.heap.size w w' := by
  have k1 := hid (rfile_any x g u V F w H n)
  by_cases hf : F.file n ≠ 0
  · rw [show F.read n off cnt = ([], F.file n) from if_pos hf]
    obtain ⟨E, gE⟩ : ∃ E, E = F.file n := ⟨_, rfl⟩
    rw [← gE] at k1 hf ⊢
    clear H hF gE
    go_enter Tryz.func67, Tryz.ntmps67
    go_wp2_with fail
    refine k1.out.mono ?_
    rintro e w1 ⟨rfl, rfl⟩
    clear k1
    go_wp2_with fail
    go_ret2
    exact ⟨⟨_, rfl, World.ownsRow_nil _ _ _ _⟩, Below.refl _ _⟩
  · have hf2 := Decidable.not_not.1 hf
    by_cases hz : off < 0 ∨ cnt < 0
    · rw [show F.read n off cnt = ([], 22) by unfold Fs.read; rw [if_neg hf, if_pos hz]]
      rw [hf2] at k1
      clear H hF
      by_cases h : off < 0
      · go_enter Tryz.func67, Tryz.ntmps67
        go_wp2_with fail
        refine k1.out.mono ?_
        rintro e w1 ⟨rfl, rfl⟩
        clear k1
        go_wp2_with fail
        go_ret2
        exact ⟨⟨_, rfl, World.ownsRow_nil _ _ _ _⟩, Below.refl _ _⟩
      · have h2 : cnt < 0 := by omega
        go_enter Tryz.func67, Tryz.ntmps67
        go_wp2_with fail
        refine k1.out.mono ?_
        rintro e w1 ⟨rfl, rfl⟩
        clear k1
        go_wp2_with fail
        go_ret2
        exact ⟨⟨_, rfl, World.ownsRow_nil _ _ _ _⟩, Below.refl _ _⟩
    · obtain ⟨i, rfl, i1, i2, i3⟩ := file_is hF hf2
      obtain ⟨o, rfl⟩ : ∃ o : Nat, off = (o : Int) := ⟨off.toNat, by omega⟩
      obtain ⟨c, rfl⟩ : ∃ c : Nat, cnt = (c : Int) := ⟨cnt.toNat, by omega⟩
      have e : F.read (i : Int) (o : Int) (c : Int) = (((F.P i).c.drop o).take c, 0) := by unfold Fs.read; rw [if_neg hf, if_neg hz]; rfl
      rw [e]
      exact rread_ok x g u V F w H hF i i1 i2 hf2 o c (by omega) (by omega)

end Go.Proofs.YtoknhcjneliboaaGreat
