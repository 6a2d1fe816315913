/- Texts of this seat, merged. -/
import Derived.Test.YtliekndkjjaldaaGreatNMg17
import Derived.Test.YtliekndkjjaldaaGreatNMg18
import Derived.Test.YtliekndkjjaldaaGreatNMg1
import Derived.Lib.AppendZeros
import Derived.Lib.AppendZerosOnto
import Derived.Test.YtliekndkjjaldaaGreatNMg15
import Derived.Laws.AppendOwnNone

/- The document's Read. -/
namespace Go.Proofs.YtliekndkjjaldaaGreat
open Go.RowKit
set_option linter.unusedVariables false
set_option maxRecDepth 20000

theorem file_is {F : Fs} (hF : FOk F) {n : Int} (h : F.file n = 0) : ∃ i : Nat, n = (i : Int) ∧ 1 ≤ i ∧ i < 17 ∧ (F.P i).k = 1 := by
  unfold Fs.file at h
  split at h
  · omega
  · rename_i ht
    obtain ⟨i, rfl, h1, h2, h3⟩ := there_is (by simpa using ht)
    split at h
    · omega
    · rename_i hk
      rcases hF.k i with q | q | q
      · exact absurd q h3
      · exact ⟨i, rfl, h1, h2, q⟩
      · exact absurd q hk

theorem own_empty (w : World) (ty : TypeId) : (w.alloc (Obj.cells #[] ty)).ownsRow w.heap.size ty 1 (.slice (some ⟨w.heap.size, 0, none⟩) 0 0) 0 [] :=
  ⟨rfl, .inr ⟨w.heap.size, 0, #[], rfl, Nat.le_refl _, heap_alloc_new _ _, Nat.le_refl _, by unfold maxLen; omega, rfl, rfl⟩⟩

/-- What append onto nothing leaves. -/
theorem app_new (w : World) (a0 : Option Addr) (m c : Nat) (zs : List Int) (hsrc : Src w a0 m zs) (hnil : a0 = none → c = 0) (hb : m ≤ 1000000) :
    ∃ va vc w', (Builtin.append_ #[30, 30] 30 #[.slice (some ⟨w.heap.size, 0, none⟩) 0 0, .slice a0 m c]).run Tryz.prog (w.alloc (Obj.cells #[] 5)) = .ok (.slice va m vc) w' ∧ Hid (w'.ownsRow w.heap.size 5 1 (.slice va m vc) m (zs.map (Value.int .u8)) ∧ Below w.heap.size w w') := by
  obtain ⟨i0, hi0, hz0, hz1, hz2⟩ := info_parts Tryz.cinfo5
  obtain ⟨v', w', h1, h2, h3⟩ := run_append_bytes (P := Tryz.prog) (w.alloc (Obj.cells #[] 5)) w.heap.size 30 30 i0 Tryz.underlying30 hi0 hz0 hz1 hz2 _ 0 [] (own_empty w 5) a0 m c zs (hsrc.below ((Below.refl _ w).alloc (Nat.le_refl _) _)) hnil (by omega) (by simp)
  have hO : w'.ownsRow w.heap.size 5 1 v' m (zs.map (Value.int .u8)) := by simpa using h2
  obtain ⟨va, vc, rfl, _⟩ := own_shp hO
  exact ⟨va, vc, w', h1, hid ⟨hO, ((Below.refl w.heap.size w).alloc (Nat.le_refl _) _).grown h3 (by simp) (fun x hx => by simp [Value.ownBlock] at hx; omega)⟩⟩

set_option maxHeartbeats 2000000 in
theorem rread_ok (x g u : Nat) (V : Nat → Value) (F : Fs) (w : World) (H : Rf w x g u V F) (hF : FOk F) (i : Nat) (i1 : 1 ≤ i) (i2 : i < 17) (hf : F.file (i : Int) = 0) (off cnt : Nat) (ho : off ≤ 9223372036854775807) (hc : cnt ≤ 9223372036854775807) :
    Calls Tryz.prog 32 #[.pointer (some ⟨x, 0, none⟩), .int .i64 (i : Int), .int .i64 (off : Int), .int .i64 (cnt : Int)] w fun e w' => (∃ v, e = .returned (.tuple #[v, .int .i64 0]) ∧ w'.ownsRow w.heap.size 5 1 v (((F.P i).c.drop off).take cnt).length ((((F.P i).c.drop off).take cnt).map (Value.int .u8))) ∧ Below w.heap.size w w' := by
  have k1 := hid (rfile_any x g u V F w H (i : Int))
  rw [hf] at k1
  have c0 := H.c0
  have c4 := H.b i i2
  have hrow := H.rb i i2
  have hL96 := (hF.c i).1
  obtain ⟨C, gC⟩ : ∃ C, C = (F.P i).c := ⟨_, rfl⟩
  rw [← gC] at hrow hL96 ⊢
  obtain ⟨L, gL⟩ : ∃ L, L = C.length := ⟨_, rfl⟩
  rw [← gL] at hrow hL96
  have a1 : ¬ (off : Int) < 0 := by omega
  have a2 : ¬ (cnt : Int) < 0 := by omega
  have n0 : (0 : Int) ≤ (i : Int) := by omega
  have n1 : (i : Int) < 17 := by omega
  obtain ⟨m, gm⟩ : ∃ m, m = min off L := ⟨_, rfl⟩
  have hmin : min (off : Int) (L : Int) = (m : Int) := by omega
  have b1 : (0 : Int) ≤ (m : Int) := by omega
  have b2 : (m : Int) ≤ (L : Int) := by omega
  have hms : m ≤ L := by omega
  obtain ⟨r, gr⟩ : ∃ r, r = min cnt (L - m) := ⟨_, rfl⟩
  have hmin2 : min (cnt : Int) ((L - m : Nat) : Int) = (r : Int) := by omega
  have b4 : (0 : Int) ≤ (r : Int) := by omega
  have b5 : r ≤ L - m := by omega
  obtain ⟨Z, gZ⟩ : ∃ Z, Z = (C.drop off).take cnt := ⟨_, rfl⟩
  have hZ : Z.length = r := by rw [gZ, List.length_take, List.length_drop]; omega
  rw [← gZ, hZ]
  have hZj : ∀ j, j < r → Z.getD j 0 = C.getD (m + j) 0 := fun j hj => by
    rw [gZ, List.getD_eq_getElem?_getD, List.getD_eq_getElem?_getD, List.getElem?_take_of_lt (by omega), List.getElem?_drop, show off + j = m + j by omega]
  rcases hrow.2 with ⟨e, hL0⟩ | ⟨q, c, cur, e, _, hq, hLc, hcm, _⟩
  · subst hL0
    have hr0 : r = 0 := by omega
    have hm0 : m = 0 := by omega
    obtain rfl : Z = [] := List.eq_nil_of_length_eq_zero (by rw [hZ, hr0])
    subst hr0 hm0
    rw [e] at c4
    have q1 : min (cnt : Int) 0 = 0 := by omega
    have q2 : min (off : Int) 0 = 0 := by omega
    clear H hF hf e gm gr hrow gC gL gZ hZ hZj hmin hmin2
    go_enter Tryz.func32, Tryz.ntmps32
    go_wp2_with fail
    refine k1.out.mono ?_
    rintro e w1 ⟨rfl, rfl⟩
    clear k1
    go_wp2_with fail
    go_ret2
    exact ⟨⟨_, rfl, own_empty w1 5⟩, (Below.refl _ w1).alloc (Nat.le_refl _) _⟩
  · rw [e] at c4 hrow
    have hsrc0 := Src.own hrow
    have b3 : (L : Int) ≤ (c : Int) := by omega
    have b6 : (r : Int) ≤ ((c - m : Nat) : Int) := by omega
    have hcm2 : c ≤ 9223372036854775807 := by simpa [maxLen] using hcm
    have HS : Hid (∀ o, (0 < r → o = m) → Src w (some ⟨q, o, none⟩) r Z) := hid (fun o ho => by
      refine ⟨hZ, fun h0 => ?_⟩
      obtain ⟨b, o', e', hb, hcc⟩ := hsrc0.2 (by omega)
      simp only [Option.some.injEq, Addr.mk.injEq] at e'
      obtain ⟨rfl, rfl, _⟩ := e'
      refine ⟨_, o, rfl, hb, fun j hj => ?_⟩
      rw [hZj j hj, ho h0]
      have := hcc (m + j) (by omega)
      rwa [Nat.zero_add] at this)
    by_cases hcm : c = m
    · have hr0 : r = 0 := by omega
      obtain rfl : Z = [] := List.eq_nil_of_length_eq_zero (by rw [hZ, hr0])
      subst hr0
      clear H hF hf e gm gr HS hrow hsrc0 gC gL gZ hZ hZj hq
      go_enter Tryz.func32, Tryz.ntmps32
      go_wp2_with fail
      refine k1.out.mono ?_
      rintro e w1 ⟨rfl, rfl⟩
      clear k1
      go_wp2_with fail
      go_ret2
      exact ⟨⟨_, rfl, own_empty w1 5⟩, (Below.refl _ w1).alloc (Nat.le_refl _) _⟩
    · obtain ⟨va, vc, w', hrun, HW⟩ := app_new w (some ⟨q, m, none⟩) r (c - m) Z (HS.out m (fun _ => rfl)) (fun h => by cases h) (by omega)
      have HRUN := hid hrun
      clear H hF hf e gm gr HS hrow hsrc0 gC gL gZ hZ hZj hq hrun
      go_enter Tryz.func32, Tryz.ntmps32
      go_wp2_with fail
      refine k1.out.mono ?_
      rintro e w1 ⟨rfl, rfl⟩
      clear k1
      go_wp2_with (at_builtin; refine wpList_append_is rfl (.tmp 38) (.tmp 44) 30 rfl _ _ _ _ rfl rfl HRUN.out ?_)
      go_ret2
      exact ⟨⟨_, rfl, HW.out.1⟩, HW.out.2⟩

set_option maxHeartbeats 2000000 in
theorem rread_any (x g u : Nat) (V : Nat → Value) (F : Fs) (w : World) (H : Rf w x g u V F) (hF : FOk F) (n off cnt : Int) (ho : off ≤ 9223372036854775807) (hc : cnt ≤ 9223372036854775807) :
    Calls Tryz.prog 32 #[.pointer (some ⟨x, 0, none⟩), .int .i64 n, .int .i64 off, .int .i64 cnt] w fun e w' => (∃ v, e = .returned (.tuple #[v, .int .i64 (F.read n off cnt).2]) ∧ w'.ownsRow w.heap.size 5 1 v (F.read n off cnt).1.length ((F.read n off cnt).1.map (Value.int .u8))) ∧ Below w.heap.size w w' := by
  have k1 := hid (rfile_any x g u V F w H n)
  by_cases hf : F.file n ≠ 0
  · rw [show F.read n off cnt = ([], F.file n) from if_pos hf]
    obtain ⟨E, gE⟩ : ∃ E, E = F.file n := ⟨_, rfl⟩
    rw [← gE] at k1 hf ⊢
    clear H hF gE
    go_enter Tryz.func32, Tryz.ntmps32
    go_wp2_with fail
    refine k1.out.mono ?_
    rintro e w1 ⟨rfl, rfl⟩
    clear k1
    go_wp2_with fail
    go_ret2
    exact ⟨⟨_, rfl, World.ownsRow_nil _ _ _ _⟩, Below.refl _ _⟩
  · have hf2 := Decidable.not_not.1 hf
    by_cases hz : off < 0 ∨ cnt < 0
    · rw [show F.read n off cnt = ([], 22) by unfold Fs.read; rw [if_neg hf, if_pos hz]]
      rw [hf2] at k1
      clear H hF
      by_cases h : off < 0
      · go_enter Tryz.func32, Tryz.ntmps32
        go_wp2_with fail
        refine k1.out.mono ?_
        rintro e w1 ⟨rfl, rfl⟩
        clear k1
        go_wp2_with fail
        go_ret2
        exact ⟨⟨_, rfl, World.ownsRow_nil _ _ _ _⟩, Below.refl _ _⟩
      · have h2 : cnt < 0 := by omega
        go_enter Tryz.func32, Tryz.ntmps32
        go_wp2_with fail
        refine k1.out.mono ?_
        rintro e w1 ⟨rfl, rfl⟩
        clear k1
        go_wp2_with fail
        go_ret2
        exact ⟨⟨_, rfl, World.ownsRow_nil _ _ _ _⟩, Below.refl _ _⟩
    · obtain ⟨i, rfl, i1, i2, i3⟩ := file_is hF hf2
      obtain ⟨o, rfl⟩ : ∃ o : Nat, off = (o : Int) := ⟨off.toNat, by omega⟩
      obtain ⟨c, rfl⟩ : ∃ c : Nat, cnt = (c : Int) := ⟨cnt.toNat, by omega⟩
      have e : F.read (i : Int) (o : Int) (c : Int) = (((F.P i).c.drop o).take c, 0) := by unfold Fs.read; rw [if_neg hf, if_neg hz]; rfl
      rw [e]
      exact rread_ok x g u V F w H hF i i1 i2 hf2 o c (by omega) (by omega)

end Go.Proofs.YtliekndkjjaldaaGreat

/- 'append(b, make([]byte, k)...)' to bytes that are owned: noughts behind them. -/
namespace Go.Proofs.YtliekndkjjaldaaGreat
open Go.RowKit
set_option linter.unusedVariables false

theorem zeroCells_list (k : Nat) : (Builtin.zeroCells (Value.int .u8 0).cells k).toList = List.replicate k (Value.int .u8 0) := by
  apply List.ext_getElem?
  intro j
  by_cases h : j < k <;> simp [Builtin.zeroCells, Value.cells, h, Nat.mod_one]

theorem run_append_zeros {P : Program} (w : World) (t tn ty : TypeId) (kn : IntKind) (i : TypeInfo) (ht : P.underlying t = some (.slice 5)) (htn : P.underlying tn = some (.int kn)) (hi : P.info? 5 = some i) (hz : i.zero = some (.int .u8 0)) (hs : i.size = 1) (hby : i.bytes = 1)
    (B : Nat) (v : Value) (n : Nat) (xs : List Value) (hown : w.ownsRow B 5 1 v n xs) (hB : B ≤ w.heap.size) (k : Nat) (hnk : n + k ≤ 4096) (K : Int) (hK : K = (k : Int)) :
    ∃ v' w', (Builtin.append_ #[t, tn] ty #[v, .int .i64 K]).run P w = .ok v' w' ∧ w'.ownsRow B 5 1 v' (n + k) (xs ++ List.replicate k (Value.int .u8 0)) ∧ Below B w w' := by
  subst hK
  have hxl := hown.1
  have hw : IntKind.i64.wrap (k : Int) = k := by rw [IntKind.wrap_i64]; omega
  have hneg : ¬ ((k : Int) < 0) := by omega
  have h48 : ¬ (281474976710656 < (k : Int)) := by omega
  rcases hown.2 with ⟨rfl, rfl⟩ | ⟨g, cap, cur, rfl, hbg, hg, hnc, hcm, hcs, htake⟩
  · have hx : xs = [] := List.eq_nil_of_length_eq_zero (by simpa using hxl)
    subst hx
    by_cases hk : k = 0
    · subst hk
      refine ⟨.slice none 0 0, w, ?_, World.ownsRow_nil _ _ _ _, Below.refl _ _⟩
      simp [Builtin.append_, run_underlying ht, run_underlying htn, sizeOf, typeInfo, zeroValue, hi, hz, hby, asInt, asIntOf, IntKind.wrap_i64]
    · have hr := Lib.run_append_nil_zeros w t tn ty 5 i (.int .u8 0) .i64 kn ht htn hi hz k (by omega) (by omega) (by omega) (by rw [hby]; omega)
      have hge := grownCap_ge w k 0 5
      have hgm := grownCap_le_maxLen w k 0 5 (by unfold maxLen; omega)
      refine ⟨_, _, hr, ⟨by simp, .inr ⟨w.heap.size, _, _, by rw [Nat.zero_add], hB, heap_alloc_new w.drew _, by omega, hgm, ?_, ?_⟩⟩, (Below.refl B w).drew.alloc hB _⟩
      · simp [size_zeroCells, Value.cells]; omega
      · rw [Array.toList_append, zeroCells_list, zeroCells_list, Nat.zero_add, Nat.mul_one, List.take_append_of_le_length (by simp), List.take_of_length_le (by simp)]
        rfl
  · by_cases hroom : n + k ≤ cap
    · have hst := run_storeCells_at P g n 5 (List.replicate k (Value.int .u8 0)) 0 cur w hg (by simp; omega) (fun u hu => by rw [List.eq_of_mem_replicate hu]; rfl)
      refine ⟨.slice (some ⟨g, 0, none⟩) (n + k) cap, w.setRow g (cur.toList.take n ++ List.replicate k (Value.int .u8 0) ++ cur.toList.drop (n + k)).toArray, ?_, ⟨by simp [hxl], .inr ⟨g, cap, _, rfl, hbg, setRow_heap w g cur _ 5 _ hg, hroom, hcm, ?_, ?_⟩⟩, ⟨rfl, rfl, rfl, by simp, fun x hx => setRow_other w g x _ (by omega)⟩⟩
      · have hz' : (if k = 0 then (#[] : Array Value) else Builtin.zeroCells (Value.int .u8 0).cells k) = (List.replicate k (Value.int .u8 0)).toArray := by
          by_cases hk : k = 0
          · subst hk; rfl
          · rw [if_neg hk, ← zeroCells_list]
        have hadd : (⟨g, 0, none⟩ : Addr).add n = ⟨g, n, none⟩ := by rw [Addr.add_lit, Nat.zero_add]
        simp only [Nat.add_zero, List.length_replicate] at hst
        by_cases hk : k = 0
        · subst hk
          simp [Builtin.append_, run_underlying ht, run_underlying htn, sizeOf, typeInfo, zeroValue, hi, hz, hby, asInt, asIntOf, IntKind.wrap_i64, hnc, storeCells]
          rw [setRow_self w g cur 5 (0, 0) hg]
        · have hzc : (Builtin.zeroCells (Value.int .u8 0).cells k).toList = List.replicate k (Value.int .u8 0) := zeroCells_list k
          simp [Builtin.append_, run_underlying ht, run_underlying htn, sizeOf, typeInfo, zeroValue, hi, hz, hs, hby, asInt, asIntOf, hw, hneg, h48, hroom, hk, hzc, hadd, hst]
      · simp; omega
      · simp only [Nat.mul_one] at htake ⊢
        rw [List.take_append_of_le_length (by simp; omega), htake, List.take_of_length_le (by simp [hxl])]
    · have hold : (Builtin.firstCells i.size n (.slice (some ⟨g, 0, none⟩) n cap)).run P w.drew = .ok xs.toArray w.drew := by
        rw [hs]
        exact run_firstCells_some w.drew 1 n ⟨g, 0, none⟩ n cap xs (by omega) (fun j u hj => hown.cells (g := g) rfl j u hj)
      have hr := Lib.run_append_grow_zeros w t tn ty 5 i (.int .u8 0) .i64 kn ht htn hi hz (some ⟨g, 0, none⟩) n cap xs hold k (by omega) (by omega) (by omega) (by omega) (by rw [hby]; omega) (by rw [hby]; exact growslice_fits (by omega) (by omega))
      have hge := grownCap_ge w (n + k) cap 5
      have hgm := grownCap_le_maxLen w (n + k) cap 5 (by unfold maxLen; omega)
      refine ⟨_, _, hr, ⟨by simp [hxl], .inr ⟨w.heap.size, _, _, rfl, hB, heap_alloc_new w.drew _, hge, hgm, ?_, ?_⟩⟩, (Below.refl B w).drew.alloc hB _⟩
      · simp [size_zeroCells, Value.cells, hxl]; omega
      · rw [Array.toList_append, Array.toList_append, zeroCells_list, zeroCells_list, Nat.mul_one, List.toList_toArray, List.take_append_of_le_length (by simp [hxl]), List.take_of_length_le (by simp [hxl])]

end Go.Proofs.YtliekndkjjaldaaGreat

/- append of bytes, and of noughts, as steps of a region that draws its order; copy into an owned row; other bytes of a file of the document's. -/
namespace Go.Proofs.YtliekndkjjaldaaGreat
open Go.RowKit
set_option linter.unusedVariables false
set_option maxRecDepth 20000

theorem step_run {P : Program} {ops : Array Oper} {o : Oper} {a : Act} {w : World} {K : Act → World → Prop} {Q : Exit → Act → World → Prop} {E : Prop}
    (hg : o.guard = none) (d x : Operand) (dT sT : TypeId) (hop : o.op = Op.call { callee := Callee.builtin Builtin.append, args := #[d, x], argTypes := #[dT, sT] })
    (v u : Value) (hd : a.eval d = v) (hx : a.eval x = u) {v' : Value} {w' : World} (hr : (Builtin.append_ #[dT, sT] o.type #[v, u]).run P w = .ok v' w') (hK : K (a.put o.dst v') w') :
    if Region.wanted o (yielded ops a.tmps) = true then Oper.wp P o a w K Q else E := by
  have hw : Region.wanted o (yielded ops a.tmps) = true := by simp [Region.wanted, hg]
  rw [if_pos hw]
  unfold Oper.wp execOp
  simp only [hop, resolve, invoke, builtin, Sem.run_bind, Sem.run_pure, Result.andThen_ok, List.map_toArray, List.map_cons, List.map_nil, hd, hx, hr]
  exact hK

theorem step_bytes {ops : Array Oper} {o : Oper} {a : Act} {w : World} {K : Act → World → Prop} {Q : Exit → Act → World → Prop} {E : Prop} (hg : o.guard = none) (d x : Operand)
    (hop : o.op = Op.call { callee := Callee.builtin Builtin.append, args := #[d, x], argTypes := #[30, 30] }) (hty : o.type = 30)
    (B : Nat) (v : Value) (n : Nat) (xs : List Value) (hd : a.eval d = v) (hown : w.ownsRow B 5 1 v n xs) (hB : B ≤ w.heap.size) (a0 : Option Addr) (m c : Nat) (zs : List Int) (hx : a.eval x = .slice a0 m c) (hsrc : Src w a0 m zs) (hnil : a0 = none → c = 0) (hb : n + m ≤ 1000000) (N : Nat) (hN : N = n + m)
    (hK : ∀ va vc w', Hid (w'.ownsRow B 5 1 (.slice va N vc) N (xs ++ zs.map (Value.int .u8))) → Hid (Below B w w') → K (a.put o.dst (.slice va N vc)) w') :
    if Region.wanted o (yielded ops a.tmps) = true then Oper.wp Tryz.prog o a w K Q else E := by
  subst hN
  obtain ⟨i0, hi0, hz0, hz1, hz2⟩ := info_parts Tryz.cinfo5
  obtain ⟨v', w', h1, h2, h3⟩ := run_append_bytes (P := Tryz.prog) w B 30 o.type i0 Tryz.underlying30 hi0 hz0 hz1 hz2 v n xs hown a0 m c zs hsrc hnil (by omega) hB
  obtain ⟨va, vc, rfl, _⟩ := own_shp h2
  exact step_run hg d x 30 30 hop _ _ hd hx h1 (hK va vc w' (hid h2) (hid ((Below.refl B w).grown h3 hB (fun x hx => (hown.lt x hx).1))))

theorem step_zeros {ops : Array Oper} {o : Oper} {a : Act} {w : World} {K : Act → World → Prop} {Q : Exit → Act → World → Prop} {E : Prop} (hg : o.guard = none) (d x : Operand)
    (hop : o.op = Op.call { callee := Callee.builtin Builtin.append, args := #[d, x], argTypes := #[30, 3] })
    (B : Nat) (v : Value) (n : Nat) (xs : List Value) (hd : a.eval d = v) (hown : w.ownsRow B 5 1 v n xs) (hB : B ≤ w.heap.size) (k : Nat) (K0 : Int) (hk : K0 = (k : Int)) (hx : a.eval x = .int .i64 K0) (hnk : n + k ≤ 4096) (N : Nat) (hN : N = n + k)
    (hK : ∀ va vc w', Hid (w'.ownsRow B 5 1 (.slice va N vc) N (xs ++ List.replicate k (Value.int .u8 0))) → Hid (Below B w w') → K (a.put o.dst (.slice va N vc)) w') :
    if Region.wanted o (yielded ops a.tmps) = true then Oper.wp Tryz.prog o a w K Q else E := by
  subst hN
  obtain ⟨i0, hi0, hz0, hz1, hz2⟩ := info_parts Tryz.cinfo5
  obtain ⟨v', w', h1, h2, h3⟩ := run_append_zeros (P := Tryz.prog) w 30 3 o.type .i64 i0 Tryz.underlying30 Tryz.underlying3 hi0 hz0 hz1 hz2 B v n xs hown hB k hnk K0 hk
  obtain ⟨va, vc, rfl, _⟩ := own_shp h2
  exact step_run hg d x 30 3 hop _ _ hd hx h1 (hK va vc w' (hid h2) (hid h3))

theorem own_copy {w : World} {B q n c : Nat} {xs : List Value} (h : w.ownsRow B 5 1 (.slice (some ⟨q, 0, none⟩) n c) n xs) : ∃ cur : List Value, w.heap[q]? = some (.cells cur.toArray 5 (0, 0)) ∧ cur.length = c ∧ n ≤ c ∧
    ∀ (off : Nat) (cs : List Value) (w' : World), off + cs.length ≤ n → w'.heap[q]? = some (.cells (splice cur off cs).toArray 5 (0, 0)) → w'.ownsRow B 5 1 (.slice (some ⟨q, 0, none⟩) n c) n (splice xs off cs) := by
  obtain ⟨hl, h2⟩ := h
  rcases h2 with ⟨h, _⟩ | ⟨g, cap, cur, e, hbg, hg, hnc, hcm, hcs, htake⟩
  · cases h
  · injection e with e1 _ e3
    injection e1 with e1
    injection e1 with e1
    subst e1 e3
    refine ⟨cur.toList, by simpa using hg, by simpa using hcs, hnc, fun off cs w' ho hw' => ⟨?_, .inr ⟨q, c, _, rfl, hbg, hw', hnc, hcm, ?_, ?_⟩⟩⟩
    · rw [length_splice _ _ _ (by rw [hl]; omega)]; exact hl
    · rw [List.size_toArray, length_splice _ _ _ (by simp; omega)]; simpa using hcs
    · have hx : xs = cur.toList.take n := by rw [← htake, Nat.mul_one]
      rw [Nat.mul_one, List.toList_toArray, hx]
      have hcl : cur.toList.length = c := by simpa using hcs
      unfold splice
      rw [List.take_append, List.take_append, List.take_take, List.length_take, hcl, show min n off = off by omega, show min off c = off by omega, List.take_of_length_le (l := cs) (by omega), List.take_take, show min off n = off by omega, List.drop_take]
      congr 3
      omega

/-- Other bytes at a number. -/
theorem Rf.bytes {w w6 : World} {x g u : Nat} {V : Nat → Value} {F : Fs} (H : Rf w x g u V F) (n : Nat) (hn : n < 17) (c : List Int) (v : Value) (hB : Below w.heap.size w w6) (hO : w6.ownsRow w.heap.size 5 1 v c.length (c.map (Value.int .u8))) :
    RfTo w x g u V (F.ct n c) (w6.setCell ⟨g, n * 6 + 3, none⟩ v) := by
  have hR : Rf (w6.setCell ⟨g, n * 6 + 3, none⟩ v) x g u (setV V (n * 3) v) (F.ct n c) := by
    refine H.put (U := fun _ => False) n hn { F.P n with c := c } _ (fun i hi => setV_ne _ _ _ _ (fun e => hi (by omega))) (Upd.of_below hB) (fun _ _ h => h.elim) 3 [v] (by simp) ?_ ?_ ?_ ?_ ?_ ?_
    · rw [setV_same, setV_ne _ _ _ _ (by omega), setV_ne _ _ _ _ (by omega)]; rfl
    · rw [setV_same]; exact own_mono hO (Nat.zero_le _)
    · rw [setV_ne _ _ _ _ (by omega)]; exact (H.grow hB).rB n hn
    · rw [setV_ne _ _ _ _ (by omega)]; exact (H.grow hB).rQ n hn
    · intro i b hi e
      by_cases h : i = n * 3
      · subst h
        rw [setV_same] at e
        exact .inl (own_ge hO b e)
      · rw [setV_ne _ _ _ _ h] at e
        exact .inr e
    · intro i j b hi hj hb ei ej
      by_cases h : i = n * 3
      · by_cases h' : j = n * 3
        · omega
        · rw [setV_ne _ _ _ _ h'] at ej
          exact absurd (H.foot_lt b (.inr (.inr (.inr ⟨j, by omega, ej⟩)))) (by omega)
      · rw [setV_ne _ _ _ _ h] at ei
        exact absurd (H.foot_lt b (.inr (.inr (.inr ⟨i, by omega, ei⟩)))) (by omega)
  refine ⟨_, hR, (Upd.of_below hB).trans (Upd.setCell (F := RfFoot x g u V) w6 ⟨g, n * 6 + 3, none⟩ v (.inr (.inl rfl))) (fun b _ h => h), fun b hb => ?_⟩
  rcases hb with h | h | h | ⟨i, hi, h⟩
  · exact .inl (.inl h)
  · exact .inl (.inr (.inl h))
  · exact .inl (.inr (.inr (.inl h)))
  · by_cases e : i = n * 3
    · subst e
      rw [setV_same] at h
      exact .inr (own_ge hO b h)
    · rw [setV_ne _ _ _ _ e] at h
      exact .inl (.inr (.inr (.inr ⟨i, hi, h⟩)))
/-- Other blocks at a number. -/
theorem Rf.blks {w w6 : World} {x g u : Nat} {V : Nat → Value} {F : Fs} (H : Rf w x g u V F) (n : Nat) (hn : n < 17) (B : List Nat) (v : Value) (hB : Below w.heap.size w w6) (hO : w6.ownsRow w.heap.size 3 1 v B.length (B.map fun (b : Nat) => Value.int .i64 (b : Int))) :
    RfTo w x g u V (F.at_ n { F.P n with B := B }) (w6.setCell ⟨g, n * 6 + 4, none⟩ v) := by
  have hR : Rf (w6.setCell ⟨g, n * 6 + 4, none⟩ v) x g u (setV V (n * 3 + 1) v) (F.at_ n { F.P n with B := B }) := by
    refine H.put (U := fun _ => False) n hn { F.P n with B := B } _ (fun i hi => setV_ne _ _ _ _ (fun e => hi (by omega))) (Upd.of_below hB) (fun _ _ h => h.elim) 4 [v] (by simp) ?_ ?_ ?_ ?_ ?_ ?_
    · rw [setV_same, setV_ne _ _ _ _ (by omega), setV_ne _ _ _ _ (by omega)]; rfl
    · rw [setV_ne _ _ _ _ (by omega)]; exact (H.grow hB).rb n hn
    · rw [setV_same]; exact own_mono hO (Nat.zero_le _)
    · rw [setV_ne _ _ _ _ (by omega)]; exact (H.grow hB).rQ n hn
    · intro i b hi e
      by_cases h : i = n * 3 + 1
      · subst h
        rw [setV_same] at e
        exact .inl (own_ge hO b e)
      · rw [setV_ne _ _ _ _ h] at e
        exact .inr e
    · intro i j b hi hj hb ei ej
      by_cases h : i = n * 3 + 1
      · by_cases h' : j = n * 3 + 1
        · omega
        · rw [setV_ne _ _ _ _ h'] at ej
          exact absurd (H.foot_lt b (.inr (.inr (.inr ⟨j, by omega, ej⟩)))) (by omega)
      · rw [setV_ne _ _ _ _ h] at ei
        exact absurd (H.foot_lt b (.inr (.inr (.inr ⟨i, by omega, ei⟩)))) (by omega)
  refine ⟨_, hR, (Upd.of_below hB).trans (Upd.setCell (F := RfFoot x g u V) w6 ⟨g, n * 6 + 4, none⟩ v (.inr (.inl rfl))) (fun b _ h => h), fun b hb => ?_⟩
  rcases hb with h | h | h | ⟨i, hi, h⟩
  · exact .inl (.inl h)
  · exact .inl (.inr (.inl h))
  · exact .inl (.inr (.inr (.inl h)))
  · by_cases e : i = n * 3 + 1
    · subst e
      rw [setV_same] at h
      exact .inr (own_ge hO b h)
    · rw [setV_ne _ _ _ _ e] at h
      exact .inl (.inr (.inr (.inr ⟨i, hi, h⟩)))

end Go.Proofs.YtliekndkjjaldaaGreat

/- append of numbers that lie somewhere onto an empty slice, as a step of a region that draws its order. -/
namespace Go.Proofs.YtliekndkjjaldaaGreat
open Go.RowKit
set_option linter.unusedVariables false
set_option maxRecDepth 20000

/-- Numbers that are read. -/
def SrcN (w : World) (a0 : Option Addr) (m : Nat) (zs : List Nat) : Prop :=
  zs.length = m ∧ (0 < m → ∃ q o, a0 = some ⟨q, o, none⟩ ∧ q < w.heap.size ∧ ∀ j, ∀ h : j < zs.length, w.cell? ⟨q, o + j, none⟩ = some (natV zs[j]))
theorem SrcN.below {w w' : World} {a0 : Option Addr} {m : Nat} {zs : List Nat} (h : SrcN w a0 m zs) (hb : Below w.heap.size w w') : SrcN w' a0 m zs :=
  ⟨h.1, fun hm => by
    obtain ⟨q, o, e, hq, hc⟩ := h.2 hm
    exact ⟨q, o, e, Nat.lt_of_lt_of_le hq hb.size, fun j hj => (hb.cell (p := ⟨q, o + j, none⟩) hq).trans (hc j hj)⟩⟩

theorem step_ints {ops : Array Oper} {o : Oper} {a : Act} {w : World} {K : Act → World → Prop} {Q : Exit → Act → World → Prop} {E : Prop} (hg : o.guard = none) (d x : Operand)
    (hop : o.op = Op.call { callee := Callee.builtin Builtin.append, args := #[d, x], argTypes := #[41, 41] })
    (B : Nat) (v : Value) (hd : a.eval d = v) (hown : w.ownsRow B 3 1 v 0 []) (hB : B ≤ w.heap.size) (a0 : Option Addr) (m c : Nat) (zs : List Nat) (hx : a.eval x = .slice a0 m c) (hsrc : SrcN w a0 m zs) (hnil : a0 = none → c = 0) (hb : m ≤ 1000000)
    (hK : ∀ va vc w', Hid (w'.ownsRow B 3 1 (.slice va m vc) m (zs.map natV)) → Hid (Below B w w') → K (a.put o.dst (.slice va m vc)) w') :
    if Region.wanted o (yielded ops a.tmps) = true then Oper.wp Tryz.prog o a w K Q else E := by
  obtain ⟨i0, hi0, hz0, hz1, hz2⟩ := info_parts infoI3
  cases a0 with
  | none =>
    obtain rfl := hnil rfl
    obtain rfl : m = 0 := by
      rcases Nat.eq_zero_or_pos m with h | h
      · exact h
      · obtain ⟨_, _, e, _⟩ := hsrc.2 h; cases e
    obtain rfl : zs = [] := List.eq_nil_of_length_eq_zero hsrc.1
    have hrun := run_append_owned_none (P := Tryz.prog) (w := w) 0 41 o.type 3 i0 1 Tryz.underlying41 hi0 _ _ _ (own_mono hown (Nat.zero_le _))
    obtain ⟨va, vc, rfl, _⟩ := own_shp hown
    exact step_run hg d x 41 41 hop _ _ hd hx hrun (hK va vc w (hid hown) (hid (Below.refl _ _)))
  | some ad =>
    have hnews : ∀ j u, (zs.map natV)[j]? = some u → w.cell? (ad.add j) = some u := fun j u hj => by
      rw [List.getElem?_map] at hj
      cases hz : zs[j]? with
      | none => rw [hz] at hj; simp at hj
      | some z =>
        rw [hz] at hj
        simp only [Option.map_some, Option.some.injEq] at hj
        obtain ⟨hjl, hje⟩ := List.getElem?_eq_some_iff.1 hz
        obtain ⟨q, o', e, hq, hc⟩ := hsrc.2 (by rw [← hsrc.1]; omega)
        injection e with e
        subst e
        rw [Addr.add_lit, hc j hjl, hje]
        exact congrArg some hj
    obtain ⟨v', w', hr, h2, h3, h4⟩ := run_append_own (P := Tryz.prog) w B 41 o.type 3 i0 _ 1 8 Tryz.underlying41 hi0 hz0 hz1 hz2 rfl (by decide) v 0 [] hown ad m c (zs.map natV) (by rw [List.length_map, hsrc.1]; omega) hnews (fun u hu => by obtain ⟨z, _, rfl⟩ := List.mem_map.1 hu; rfl) (by unfold maxLen; omega) (by omega) hB
    rw [Nat.zero_add, List.nil_append] at h2
    obtain ⟨va, vc, rfl, _⟩ := own_shp h2
    exact step_run hg d x 41 41 hop _ _ hd hx hr (hK va vc w' (hid h2) (hid ((Below.refl B w).grown h3 hB (fun y hy => (hown.lt y hy).1))))

end Go.Proofs.YtliekndkjjaldaaGreat

/- What a look of a file system tells, as it lies; a node of it under way. -/
namespace Go.Proofs.YtliekndkjjaldaaGreat
open Go.RowKit
set_option linter.unusedVariables false
set_option maxRecDepth 20000

theorem csizeNd : (Tryz.prog.info? 44).map (·.size) = some 8 := by kernel_rfl
theorem infoNd : (Tryz.prog.info? 44).map (fun i => (i.zero, i.size, i.bytes)) = some (some (.agg #[.int .i64 0, .int .i64 0, .int .i64 0, .int .i64 0, .int .i64 0, .slice none 0 0, .slice none 0 0, .slice none 0 0]), 8, 112) := by kernel_rfl
theorem infoStr : (Tryz.prog.info? 9).map (fun i => (i.zero, i.size, i.bytes)) = some (some (.string ⟨#[]⟩), 1, 16) := by kernel_rfl

def nmV (x : List UInt8 × Nat) : Value := .string (bs x.1)
def ndV (x : List UInt8 × Nat) : Value := natV x.2
/-- A node's cells. -/
def lkC (i : Nat) (y : Fn) (vB vN vM : Value) : List Value := [.int .i64 (i : Int), .int .i64 y.k, .int .i64 y.l, .int .i64 ((y.c.length : Int) + (y.Q.length : Int)), .int .i64 y.h, vB, vN, vM]

/-- A node under way: its box, its three lists. -/
structure LkS (w : World) (B p i : Nat) (y : Fn) (a b : Nat) (vB vN vM : Value) : Prop where
  box : w.heap[p]? = some (.cells (lkC i y vB vN vM).toArray 44 (0, 0))
  rB : w.ownsRow 0 3 1 vB y.B.length (y.B.map natV)
  rN : w.ownsRow 0 9 1 vN a ((y.Q.take a).map nmV)
  rM : w.ownsRow 0 3 1 vM b ((y.Q.take b).map ndV)
  np : B ≤ p
  nB : ∀ c, vB.ownBlock = some c → B ≤ c ∧ c ≠ p
  nN : ∀ c, vN.ownBlock = some c → B ≤ c ∧ c ≠ p
  nM : ∀ c, vM.ownBlock = some c → B ≤ c ∧ c ≠ p
  aBN : ∀ c, vB.ownBlock = some c → vN.ownBlock ≠ some c
  aBM : ∀ c, vB.ownBlock = some c → vM.ownBlock ≠ some c
  aNM : ∀ c, vN.ownBlock = some c → vM.ownBlock ≠ some c

section
variable {w W w' : World} {B p i a b : Nat} {y : Fn} {vB vN vM v' : Value}
theorem LkS.lt (h : LkS w B p i y a b vB vN vM) : p < w.heap.size := (Array.getElem?_eq_some_iff.1 h.box).1
theorem LkS.upd {U : Nat → Prop} (h : LkS w B p i y a b vB vN vM) (u : Upd U w w') (hU : ∀ c, c < w.heap.size → B ≤ c → ¬ U c) : LkS w' B p i y a b vB vN vM :=
  ⟨u.heap h.box (hU p h.lt h.np), u.own h.rB (fun c hc => hU c (h.rB.lt c hc).2 (h.nB c hc).1), u.own h.rN (fun c hc => hU c (h.rN.lt c hc).2 (h.nN c hc).1), u.own h.rM (fun c hc => hU c (h.rM.lt c hc).2 (h.nM c hc).1), h.np, h.nB, h.nN, h.nM, h.aBN, h.aBM, h.aNM⟩
theorem LkS.grow (h : LkS w B p i y a b vB vN vM) (u : Below w.heap.size w w') : LkS w' B p i y a b vB vN vM := h.upd (Upd.of_below (F := fun _ => False) u) (fun _ _ _ h => h)

theorem set6 {w : World} {p : Nat} {i : Nat} {y : Fn} {vB vN vM : Value} (h : w.heap[p]? = some (.cells (lkC i y vB vN vM).toArray 44 (0, 0))) (v : Value) : (w.setCell ⟨p, 6, none⟩ v).heap[p]? = some (.cells (lkC i y vB v vM).toArray 44 (0, 0)) := heap_setCell_same w p 6 _ _ v h
theorem set7 {w : World} {p : Nat} {i : Nat} {y : Fn} {vB vN vM : Value} (h : w.heap[p]? = some (.cells (lkC i y vB vN vM).toArray 44 (0, 0))) (v : Value) : (w.setCell ⟨p, 7, none⟩ v).heap[p]? = some (.cells (lkC i y vB vN v).toArray 44 (0, 0)) := heap_setCell_same w p 7 _ _ v h
theorem set5 {w : World} {p : Nat} {i : Nat} {y : Fn} {vB vN vM : Value} (h : w.heap[p]? = some (.cells (lkC i y vB vN vM).toArray 44 (0, 0))) (v : Value) : (w.setCell ⟨p, 5, none⟩ v).heap[p]? = some (.cells (lkC i y v vN vM).toArray 44 (0, 0)) := heap_setCell_same w p 5 _ _ v h

theorem LkS.name (h : LkS w B p i y a b vB vN vM) (hb : Below w.heap.size w W) (hO : w'.ownsRow 0 9 1 v' (a + 1) ((y.Q.take (a + 1)).map nmV)) (hU : Upd (fun c => vN.ownBlock = some c) W w') (hW : v'.ownBlock = vN.ownBlock ∨ ∀ c, v'.ownBlock = some c → W.heap.size ≤ c) : LkS (w'.setCell ⟨p, 6, none⟩ v') B p i y (a + 1) b vB v' vM := by
  have hs := hb.size
  have hu : Upd (fun c => vN.ownBlock = some c) w w' := (Upd.of_below hb).trans hU (fun b _ h => h)
  have hst : Upd (· = p) w' (w'.setCell ⟨p, 6, none⟩ v') := Upd.setCell w' ⟨p, 6, none⟩ v' rfl
  have hv : ∀ c, v'.ownBlock = some c → B ≤ c ∧ c ≠ p ∧ (vB.ownBlock ≠ some c) ∧ vM.ownBlock ≠ some c := fun c hc => by
    rcases hW with q | q
    · rw [q] at hc
      exact ⟨(h.nN c hc).1, (h.nN c hc).2, fun e => h.aBN c e hc, h.aNM c hc⟩
    · have := q c hc
      have hp := h.lt
      have hnp := h.np
      exact ⟨by omega, by omega, fun e => by have := (h.rB.lt c e).2; omega, fun e => by have := (h.rM.lt c e).2; omega⟩
  exact ⟨set6 (hu.heap h.box (fun e => (h.nN p e).2 rfl)) v', hst.own (hu.own h.rB (fun c hc e => h.aBN c hc e)) (fun c hc => (h.nB c hc).2), hst.own hO (fun c hc => (hv c hc).2.1), hst.own (hu.own h.rM (fun c hc e => h.aNM c e hc)) (fun c hc => (h.nM c hc).2), h.np, h.nB, fun c hc => ⟨(hv c hc).1, (hv c hc).2.1⟩, h.nM,
    fun c hc e => (hv c e).2.2.1 hc, h.aBM, fun c hc => (hv c hc).2.2.2⟩
theorem LkS.node (h : LkS w B p i y a b vB vN vM) (hb : Below w.heap.size w W) (hO : w'.ownsRow 0 3 1 v' (b + 1) ((y.Q.take (b + 1)).map ndV)) (hU : Upd (fun c => vM.ownBlock = some c) W w') (hW : v'.ownBlock = vM.ownBlock ∨ ∀ c, v'.ownBlock = some c → W.heap.size ≤ c) : LkS (w'.setCell ⟨p, 7, none⟩ v') B p i y a (b + 1) vB vN v' := by
  have hs := hb.size
  have hu : Upd (fun c => vM.ownBlock = some c) w w' := (Upd.of_below hb).trans hU (fun b _ h => h)
  have hst : Upd (· = p) w' (w'.setCell ⟨p, 7, none⟩ v') := Upd.setCell w' ⟨p, 7, none⟩ v' rfl
  have hv : ∀ c, v'.ownBlock = some c → B ≤ c ∧ c ≠ p ∧ (vB.ownBlock ≠ some c) ∧ vN.ownBlock ≠ some c := fun c hc => by
    rcases hW with q | q
    · rw [q] at hc
      exact ⟨(h.nM c hc).1, (h.nM c hc).2, fun e => h.aBM c e hc, fun e => h.aNM c e hc⟩
    · have := q c hc
      have hp := h.lt
      have hnp := h.np
      exact ⟨by omega, by omega, fun e => by have := (h.rB.lt c e).2; omega, fun e => by have := (h.rN.lt c e).2; omega⟩
  exact ⟨set7 (hu.heap h.box (fun e => (h.nM p e).2 rfl)) v', hst.own (hu.own h.rB (fun c hc e => h.aBM c hc e)) (fun c hc => (h.nB c hc).2), hst.own (hu.own h.rN (fun c hc e => h.aNM c hc e)) (fun c hc => (h.nN c hc).2), hst.own hO (fun c hc => (hv c hc).2.1), h.np, h.nB, h.nN, fun c hc => ⟨(hv c hc).1, (hv c hc).2.1⟩,
    h.aBN, fun c hc e => (hv c e).2.2.1 hc, fun c hc e => (hv c e).2.2.2 hc⟩
end

/-- A node as it is told, its lists in blocks of which G is true. -/
def LkN (w : World) (G : Nat → Prop) (i : Nat) (y : Fn) (c : List Value) : Prop :=
  ∃ vB vN vM, c = lkC i y vB vN vM ∧ w.ownsRow 0 3 1 vB y.B.length (y.B.map natV) ∧ w.ownsRow 0 9 1 vN y.Q.length (y.Q.map nmV) ∧ w.ownsRow 0 3 1 vM y.Q.length (y.Q.map ndV) ∧ ∀ b, vB.ownBlock = some b ∨ vN.ownBlock = some b ∨ vM.ownBlock = some b → G b
theorem LkN.upd {U G G' : Nat → Prop} {w w' : World} {i : Nat} {y : Fn} {c : List Value} (h : LkN w G i y c) (u : Upd U w w') (hU : ∀ b, b < w.heap.size → G b → ¬ U b) (hG : ∀ b, b < w.heap.size → G b → G' b) : LkN w' G' i y c := by
  obtain ⟨vB, vN, vM, e, h1, h2, h3, h4⟩ := h
  refine ⟨vB, vN, vM, e, u.own h1 (fun b hb => hU b (h1.lt b hb).2 (h4 b (.inl hb))), u.own h2 (fun b hb => hU b (h2.lt b hb).2 (h4 b (.inr (.inl hb)))), u.own h3 (fun b hb => hU b (h3.lt b hb).2 (h4 b (.inr (.inr hb)))), fun b hb => ?_⟩
  refine hG b ?_ (h4 b hb)
  rcases hb with q | q | q
  · exact (h1.lt b q).2
  · exact (h2.lt b q).2
  · exact (h3.lt b q).2
theorem LkS.done {w : World} {B p i n : Nat} {y : Fn} {vB vN vM : Value} (h : LkS w B p i y n n vB vN vM) (hn : n = y.Q.length) : LkN w (fun c => B ≤ c) i y (lkC i y vB vN vM) := by
  subst hn
  have h2 := h.rN
  have h3 := h.rM
  rw [List.take_length] at h2 h3
  refine ⟨vB, vN, vM, rfl, h.rB, h2, h3, fun b hb => ?_⟩
  rcases hb with q | q | q
  · exact (h.nB b q).1
  · exact (h.nN b q).1
  · exact (h.nM b q).1

/-- A list of nodes as they are told. -/
def LkL (w : World) (G : Nat → Prop) (F : Fs) : List Nat → List Value → Prop
  | [], cs => cs = []
  | i :: r, cs => ∃ c d, cs = c ++ d ∧ LkN w G i (F.P i) c ∧ LkL w G F r d
theorem LkL.upd {U G G' : Nat → Prop} {w w' : World} {F : Fs} (u : Upd U w w') (hU : ∀ b, b < w.heap.size → G b → ¬ U b) (hG : ∀ b, b < w.heap.size → G b → G' b) : ∀ {is : List Nat} {cs : List Value}, LkL w G F is cs → LkL w' G' F is cs
  | [], cs, h => h
  | i :: r, cs, ⟨c, d, e, h1, h2⟩ => ⟨c, d, e, h1.upd u hU hG, LkL.upd u hU hG h2⟩
theorem LkL.snoc {w : World} {G : Nat → Prop} {F : Fs} {j : Nat} {c : List Value} (hc : LkN w G j (F.P j) c) : ∀ {is : List Nat} {cs : List Value}, LkL w G F is cs → LkL w G F (is ++ [j]) (cs ++ c)
  | [], cs, h => ⟨c, [], by rw [show cs = [] from h]; simp, hc, rfl⟩
  | i :: r, cs, ⟨c', d, e, h1, h2⟩ => ⟨c', d ++ c, by rw [e, List.append_assoc], h1, LkL.snoc hc h2⟩
theorem LkL.len {w : World} {G : Nat → Prop} {F : Fs} : ∀ {is : List Nat} {cs : List Value}, LkL w G F is cs → cs.length = is.length * 8
  | [], cs, h => by rw [show cs = [] from h]; rfl
  | i :: r, cs, ⟨c, d, e, h1, h2⟩ => by
    obtain ⟨_, _, _, ec, _⟩ := h1
    rw [e, List.length_append, LkL.len h2, ec]
    simp [lkC]; omega

/-- The numbers of the nodes that are there, below a bound. -/
def thr (F : Fs) (n : Nat) : List Nat := (List.range n).filter (fun i => decide ((F.P i).k ≠ 0))
theorem thr_yes {F : Fs} {n : Nat} (h : (F.P n).k ≠ 0) : thr F (n + 1) = thr F n ++ [n] := range_snoc_yes _ n (by simpa using h)
theorem thr_no {F : Fs} {n : Nat} (h : (F.P n).k = 0) : thr F (n + 1) = thr F n := range_snoc_no _ n (by simpa using h)
theorem thr_len (F : Fs) (n : Nat) : (thr F n).length ≤ n := by
  have := List.length_filter_le (fun i => decide ((F.P i).k ≠ 0)) (List.range n)
  rw [List.length_range] at this
  exact this

theorem own_up {w : World} {B e sz n : Nat} {v : Value} {xs : List Value} (h : w.ownsRow 0 e sz v n xs) (hb : ∀ b, v.ownBlock = some b → B ≤ b) : w.ownsRow B e sz v n xs := by
  obtain ⟨h1, h2⟩ := h
  refine ⟨h1, ?_⟩
  rcases h2 with h2 | ⟨g, cap, cur, rfl, _, r⟩
  · exact .inl h2
  · exact .inr ⟨g, cap, cur, rfl, hb g rfl, r⟩
/-- As step_ints, with what turns and where the new row lies. -/
theorem step_ints2 {ops : Array Oper} {o : Oper} {a : Act} {w : World} {K : Act → World → Prop} {Q : Exit → Act → World → Prop} {E : Prop} (hg : o.guard = none) (d x : Operand)
    (hop : o.op = Op.call { callee := Callee.builtin Builtin.append, args := #[d, x], argTypes := #[41, 41] })
    (B : Nat) (v : Value) (hd : a.eval d = v) (hown : w.ownsRow B 3 1 v 0 []) (hB : B ≤ w.heap.size) (a0 : Option Addr) (m c : Nat) (zs : List Nat) (hx : a.eval x = .slice a0 m c) (hsrc : SrcN w a0 m zs) (hnil : a0 = none → c = 0) (hb : m ≤ 1000000)
    (hK : ∀ va vc w', Hid (w'.ownsRow B 3 1 (.slice va m vc) m (zs.map natV)) → Hid (Below B w w') → Hid (Upd (fun y => v.ownBlock = some y) w w') → Hid ((Value.slice va m vc).ownBlock = v.ownBlock ∨ ∀ y, (Value.slice va m vc).ownBlock = some y → w.heap.size ≤ y) → K (a.put o.dst (.slice va m vc)) w') :
    if Region.wanted o (yielded ops a.tmps) = true then Oper.wp Tryz.prog o a w K Q else E := by
  obtain ⟨i0, hi0, hz0, hz1, hz2⟩ := info_parts infoI3
  cases a0 with
  | none =>
    obtain rfl := hnil rfl
    obtain rfl : m = 0 := by
      rcases Nat.eq_zero_or_pos m with h | h
      · exact h
      · obtain ⟨_, _, e, _⟩ := hsrc.2 h; cases e
    obtain rfl : zs = [] := List.eq_nil_of_length_eq_zero hsrc.1
    have hrun := run_append_owned_none (P := Tryz.prog) (w := w) 0 41 o.type 3 i0 1 Tryz.underlying41 hi0 _ _ _ (own_mono hown (Nat.zero_le _))
    obtain ⟨va, vc, rfl, _⟩ := own_shp hown
    exact step_run hg d x 41 41 hop _ _ hd hx hrun (hK va vc w (hid hown) (hid (Below.refl _ _)) (hid (Upd.refl _ _)) (hid (.inl rfl)))
  | some ad =>
    have hnews : ∀ j u, (zs.map natV)[j]? = some u → w.cell? (ad.add j) = some u := fun j u hj => by
      rw [List.getElem?_map] at hj
      cases hz : zs[j]? with
      | none => rw [hz] at hj; simp at hj
      | some z =>
        rw [hz] at hj
        simp only [Option.map_some, Option.some.injEq] at hj
        obtain ⟨hjl, hje⟩ := List.getElem?_eq_some_iff.1 hz
        obtain ⟨q, o', e, hq, hc⟩ := hsrc.2 (by rw [← hsrc.1]; omega)
        injection e with e
        subst e
        rw [Addr.add_lit, hc j hjl, hje]
        exact congrArg some hj
    obtain ⟨v', w', hr, h2, h3, h4, h5⟩ := run_append_where (P := Tryz.prog) w 41 o.type 3 i0 _ 1 8 Tryz.underlying41 hi0 hz0 hz1 hz2 rfl (by decide) v 0 [] (own_mono hown (Nat.zero_le _)) ad m c (zs.map natV) (by rw [List.length_map, hsrc.1]; omega) hnews (fun u hu => by obtain ⟨z, _, rfl⟩ := List.mem_map.1 hu; rfl) (by unfold maxLen; omega) (by omega)
    rw [Nat.zero_add, List.nil_append] at h2
    obtain ⟨va, vc, rfl, _⟩ := own_shp h2
    have hnew : ∀ b, (Value.slice va m vc).ownBlock = some b → B ≤ b := fun b hb => by
      rcases h5 with q | q
      · rw [q] at hb; exact (hown.lt b hb).1
      · exact Nat.le_trans hB (q b hb)
    exact step_run hg d x 41 41 hop _ _ hd hx hr (hK va vc w' (hid (own_up h2 hnew)) (hid ((Below.refl B w).grown h3 hB (fun y hy => (hown.lt y hy).1))) (hid ((Upd.of_grown h3).mono fun y _ hy => hy.symm)) (hid h5))

/-- What Look tells. -/
def LooksP (w : World) (F : Fs) (e : Ending) (w' : World) : Prop := (∃ v cs, e = .returned v ∧ w'.ownsRow 0 44 8 v (thr F 17).length cs ∧ LkL w' (fun b => w.heap.size ≤ b) F (thr F 17) cs) ∧ Below w.heap.size w w'

/-- One node more on a list that is under way. -/
theorem LkL.more {w W w' : World} {B0 : Nat} {F : Fs} {j : Nat} {cs c : List Value} {v v' : Value} {is : List Nat} (h : LkL w (fun b => B0 ≤ b ∧ v.ownBlock ≠ some b) F is cs) (hv : w.ownsRow 0 44 8 v is.length cs) (hb : Below w.heap.size w W) (hc : LkN W (fun b => w.heap.size ≤ b) j (F.P j) c) (hB : B0 ≤ w.heap.size)
    (hU : Upd (fun b => v.ownBlock = some b) W w') (hW : v'.ownBlock = v.ownBlock ∨ ∀ b, v'.ownBlock = some b → W.heap.size ≤ b) : LkL w' (fun b => B0 ≤ b ∧ v'.ownBlock ≠ some b) F (is ++ [j]) (cs ++ c) := by
  have hs := hb.size
  refine LkL.snoc ?_ ?_
  · refine hc.upd hU (fun b hbW hG e => ?_) (fun b hbW hG => ⟨by omega, fun e => ?_⟩)
    · have := (hv.lt b e).2; omega
    · rcases hW with q | q
      · rw [q] at e; have := (hv.lt b e).2; omega
      · have := q b e; omega
  · refine LkL.upd ((Upd.of_below hb).trans hU (fun b _ h => h)) (fun b hbw hG e => hG.2 e) (fun b hbw hG => ⟨hG.1, fun e => ?_⟩) h
    rcases hW with q | q
    · rw [q] at e; exact hG.2 e
    · have := q b e; omega

end Go.Proofs.YtliekndkjjaldaaGreat
