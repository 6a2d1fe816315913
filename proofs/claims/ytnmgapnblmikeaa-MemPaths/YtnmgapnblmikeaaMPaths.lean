/- The road of MemPaths: it returns true for every int and every text, and leaves what was there. -/
import Derived.Test.YtnmgapnblmikeaaMCut
import Derived.Test.YtnmgapnblmikeaaMDos
import Derived.Test.YtnmgapnblmikeaaMBack
import Derived.Lib.ConvBytes
import Derived.ArgAppend
namespace Go.Proofs.Ytnmgapnblmikeaa
open Go.RowKit Lend
set_option linter.unusedVariables false

/-- 'append(b, 0)' of bytes that the call made of a text: both arms in one. -/
theorem wpList_append_nought {ops : Array Oper} {rest : List Oper} {o : Oper} {a : Act} {Q : Exit → Act → World → Prop} (w w0 : World) (B : Nat) (hgd : o.guard = none) (s x : Operand)
    (hop : o.op = .call { callee := .builtin .append, args := #[s, x], argTypes := #[27, 27] }) (b n cap ad : Nat) (zs : List Int) (hs : a.eval s = .slice (some ⟨b, 0, none⟩) n cap) (hsrc : Src w (some ⟨b, 0, none⟩) n zs)
    (hx : a.eval x = .slice (some ⟨ad, 0, none⟩) 1 1) (hc : w.cell? ⟨ad, 0, none⟩ = some (.int .u8 0)) (hsp : n < cap → (w.cell? ⟨b, n, none⟩).isSome = true ∧ w.frozen? ⟨b, n, none⟩ = false) (hbw : b < w.heap.size) (hb : B ≤ b) (hbel : Below B w0 w) (hn : n ≤ 140737488351232)
    (K : ∀ a' c' w', Src w' a' (n + 1) (zs ++ [0]) → Below B w0 w' → wpList Try.prog ops Q rest (a.put o.dst (.slice a' (n + 1) c')) w') : wpList Try.prog ops Q (o :: rest) a w := by
  obtain ⟨i0, hi, hz0, hz1, hz2⟩ := info_parts Try.linfo5
  have hold : ∀ j u, (zs.map (Value.int .u8))[j]? = some u → w.cell? ⟨b, 0 + j, none⟩ = some u := by
    intro j u hj
    have := src_cells hsrc j u hj
    rwa [Addr.add_lit] at this
  refine wpList_append_arg w hgd s x 27 hop 5 i0 (.int .u8 0) 1 1 Try.underlying27 hi hz0 hz1 hz2 rfl (by decide) b 0 n cap (zs.map (Value.int .u8)) hs (by simp [hsrc.1]) hold ⟨ad, 0, none⟩ 1 1 [.int .u8 0] hx rfl ?_ (by simp [Value.oneCell']) ?_ (by unfold maxLen; omega) (by omega) ?_ ?_
  · intro j u hj
    cases j with
    | zero => simp at hj; subst hj; rw [Addr.add_lit]; exact hc
    | succ j => simp at hj
  · intro hr j hj
    have : j = 0 := by simp at hj; omega
    subst this
    have := hsp (by omega)
    simpa using this
  · intro hr
    have hsp := hsp (by omega)
    have e : w.setCells b (0 + n * 1) [.int .u8 0] = w.setCell ⟨b, n, none⟩ (.int .u8 0) := by simp [World.setCells]
    rw [e]
    have hu : Upd (fun y => y = b) w (w.setCell ⟨b, n, none⟩ (.int .u8 0)) := Upd.setCell w _ _ rfl
    refine K (some ⟨b, 0, none⟩) cap _ ⟨by simp [hsrc.1], fun _ => ⟨b, 0, rfl, Nat.lt_of_lt_of_le hbw hu.size, fun j hj => ?_⟩⟩ (hbel.trans (hu.below (Nat.le_trans hb (Nat.le_of_lt hbw)) (fun y hy => by omega)))
    by_cases hjn : j = n
    · subst hjn
      obtain ⟨u, hu'⟩ := Option.isSome_iff_exists.1 hsp.1
      rw [Nat.zero_add, World.cell?_setCell_same _ _ _ hu']
      simp [List.getD, hsrc.1]
    · rw [World.cell?_setCell_other _ _ _ _ (by intro e; injection e with e1 e2; omega)]
      obtain ⟨b', o', e', _, hcc⟩ := hsrc.2 (by omega)
      injection e' with e'; injection e' with e1 e2; subst e1; subst e2
      rw [hcc j (by omega)]
      simp [List.getD, List.getElem?_append, hsrc.1, show j < n by omega]
  · intro hr v' w' ho hg
    obtain ⟨a', c', rfl, hs'⟩ := Src.ofOwn (zs := zs ++ [0]) (by simpa using ho)
    exact K a' c' w' hs' (hbel.grown hg (Nat.le_trans hb (Nat.le_of_lt hbw)) (by intro q hq; cases hq))

/-- The bytes of a text in new memory, as 'convert' lays them. -/
theorem bytesWorld_below (w : World) (s : ByteArray) : Below w.heap.size w (Lib.bytesWorld w 5 s) :=
  ⟨rfl, rfl, rfl, by rw [Lib.bytesWorld_size]; omega, fun k hk => Lib.bytesWorld_at_old w 5 s k hk⟩
theorem bytesWorld_src (w : World) (s : ByteArray) : Src (Lib.bytesWorld w 5 s) (some ⟨w.heap.size, 0, none⟩) s.size (numsOf s) :=
  ⟨length_numsOf s, fun _ => ⟨w.heap.size, 0, rfl, by rw [Lib.bytesWorld_size]; omega, fun j hj => by
    rw [Nat.zero_add, Lib.bytesWorld_cell w 5 s j hj]
    have : j < s.data.toList.length := by simpa using hj
    simp [numsOf, List.getD, List.getElem?_eq_getElem this]⟩⟩
theorem bytesWorld_spare (w : World) (s : ByteArray) (h : s.size < grownCap w s.size 0 5) : ((Lib.bytesWorld w 5 s).cell? ⟨w.heap.size, s.size, none⟩).isSome = true ∧ (Lib.bytesWorld w 5 s).frozen? ⟨w.heap.size, s.size, none⟩ = false := by
  have hs : (Lib.bytesCells w 5 s).size = grownCap w s.size 0 5 := by
    unfold Lib.bytesCells
    have : s.data.size = s.size := rfl
    simp; omega
  have hb := Lib.bytesWorld_at_new w 5 s
  refine ⟨?_, ?_⟩
  · simp only [World.cell?, hb]
    simp; omega
  · simp only [World.frozen?, hb]
    simp; omega

theorem splice_drop (zs bs : List Int) (k : Nat) (h : k ≤ zs.length) : (splice zs k bs).drop k = bs ++ zs.drop (k + bs.length) := by
  unfold splice
  rw [List.drop_append_of_le_length (by simp; omega), List.drop_of_length_le (by simp; omega)]
  rfl

set_option maxHeartbeats 2000000 in
set_option maxRecDepth 20000 in
theorem paths_road (addr : Int) (s : ByteArray) (w : World) (h0 : -9223372036854775808 ≤ addr) (h1 : addr ≤ 9223372036854775807) (hs : s.size ≤ 140737488351232) :
    Calls Try.prog 7 #[.int .i64 addr, .string s] w fun e w' => e = .returned (.bool true) ∧ Below w.heap.size w w' := by
  obtain ⟨Z, gZ⟩ : ∃ Z : List Int, Z = List.replicate 2048 0 := ⟨_, rfl⟩
  have k9 := hid (mnew_any Z gZ)
  have kC := hid (fun wx => cut_any s wx (by omega))
  obtain ⟨S, gS⟩ : ∃ S, S = pre s := ⟨_, rfl⟩
  have hSn : numsOf S = (numsOf s).take (ahead (numsOf s)) := by rw [gS]; exact numsOf_pre s
  have hS0 : ∀ z ∈ numsOf S, z ≠ 0 := by rw [hSn]; exact take_ahead_ne _
  have hSl : S.size ≤ 140737488351232 := by
    have := congrArg List.length hSn
    rw [length_numsOf, List.length_take, length_numsOf] at this
    omega
  rw [← gS] at kC
  have HS0 := hid hS0
  clear gZ gS hSn hS0
  go_enter Try.func7, Try.ntmps7
  go_wp2_with fail
  refine (k9.out _).mono ?_
  rintro e w1 ⟨rfl, hs1, hb1, hx1⟩
  clear hx1
  have HS1 := hid hs1
  clear hs1
  go_wp2_with fail
  refine (kC.out _).mono ?_
  rintro e w2 ⟨v2, v3, rfl, n, hw2⟩
  have HS2 : Hid (Spc w2 w.heap.size Z) := by rw [hw2]; exact hid ⟨HS1.out.len, HS1.out.bytes, HS1.out.block⟩
  have hb2 : Below w.heap.size w w2 := by rw [hw2]; exact below_drewN hb1 n
  clear hw2 HS1
  have hcv := Lib.run_convert_string_bytes (P := Try.prog) w2 9 27 5 S Try.underlying9 Try.underlying27 Try.underlying5
  have hcW := bytesWorld_below w2 S
  have hcS := bytesWorld_src w2 S
  have hcP := bytesWorld_spare w2 S
  have hcZ := Lib.bytesWorld_size w2 5 S
  obtain ⟨WB, gW⟩ : ∃ WB, WB = Lib.bytesWorld w2 5 S := ⟨_, rfl⟩
  obtain ⟨C, gC⟩ : ∃ C, C = grownCap w2 S.size 0 5 := ⟨_, rfl⟩
  rw [← gW] at hcv hcW hcS hcP hcZ
  rw [← gC] at hcv hcP
  have HW := hid hcW
  have HSB := hid hcS
  have HP := hid hcP
  have HZ := hid hcZ
  clear gW gC hcW hcS hcP hcZ
  have hbB : Hid (Below w.heap.size w (WB.alloc (.cells #[.int .u8 0] 5))) := hid ((hb2.trans (HW.out.mono hb2.size)).alloc (Nat.le_trans hb2.size HW.out.size) _)
  have hlt : w.heap.size < w2.heap.size := HS2.out.lt
  go_wp2_with (at_builtin; go_must (refine wpList_append_nought _ w2 w2.heap.size rfl (.tmp 18) (.tmp 19) rfl w2.heap.size S.size C WB.heap.size (numsOf S) rfl (HSB.out.below ((Below.refl _ _).alloc (Nat.le_refl _) _)) rfl (cell_one_new _ _ _ 0 _ rfl) ?_ ?_ (Nat.le_refl _) ?_ hSl ?_))
  case refine_1 =>
    intro hc
    have hp := HP.out hc
    have hbl := ((Below.refl WB.heap.size WB).alloc (Nat.le_refl _) (.cells #[.int .u8 0] 5)).block w2.heap.size (by have := HZ.out; omega)
    rw [World.cell?_of_block (a := ⟨w2.heap.size, S.size, none⟩) hbl, World.frozen?_of_block (a := ⟨w2.heap.size, S.size, none⟩) hbl]
    exact hp
  case refine_2 => have := HZ.out; simp; omega
  case refine_3 => exact HW.out.alloc HW.out.size _
  intro a' c' w3 hs3 hb3
  have hB3 : Below w.heap.size w w3 := hb2.trans (hb3.mono (Nat.le_of_lt hlt))
  have HC3 := hid hs3
  have HS3 := hid (HS2.out.below hb3 hlt)
  have hSbyt : Bytes (numsOf S ++ [0]) := (numsOf_bytes S).append (fun z hz => by rcases List.mem_singleton.1 hz with rfl; omega)
  have HY := hid hSbyt
  clear hs3 hb3 hcv hbB hSbyt HSB HP HZ HW
  by_cases hp : isPart addr ((S.size + 1 : Nat) : Int) = true
  · obtain ⟨k, m, rfl, e2, hkm⟩ := isPart_yes hp
    obtain rfl : S.size + 1 = m := by omega
    have hk : k < 2048 := by omega
    clear hp e2
    have kO := hid (out_yes w.heap.size k (S.size + 1) c' _ a' Z (numsOf S ++ [0]) w3 HS3.out HC3.out HY.out rfl hkm)
    go_wp2_with fail
    refine kO.out.mono ?_
    rintro e w4 ⟨rfl, hs4, hu4⟩
    have hB4 : Below w.heap.size w w4 := hB3.trans (hu4.below hB3.size (fun y hy => by omega))
    have kP := hid (mpath_yes w.heap.size k (4096 + (k : Int)) _ w4 hs4 rfl hk)
    have htold : told ((splice Z k (numsOf S ++ [0])).drop k) = if 24 < S.size then (⟨#[]⟩, 36) else (S, 0) := by
      rw [splice_drop _ _ _ (by rw [HS3.out.len]; omega), List.append_assoc]
      exact told_text S _ HS0.out
    rw [htold] at kP
    clear hs4 hu4 htold
    by_cases h24 : 24 < S.size
    · rw [if_pos h24] at kP
      have i24 : (24 : Int) < (S.size : Int) := by omega
      go_wp2_with fail
      refine kP.out.mono ?_
      rintro e w5 ⟨rfl, rfl⟩
      go_wp2_with fail
      go_ret
      exact ⟨rfl, hB4⟩
    · rw [if_neg h24] at kP
      have i24 : ¬ (24 : Int) < (S.size : Int) := by omega
      go_wp2_with fail
      refine kP.out.mono ?_
      rintro e w5 ⟨rfl, rfl⟩
      go_wp2_with fail
      go_ret
      exact ⟨rfl, hB4⟩
  · have hp : isPart addr ((S.size + 1 : Nat) : Int) = false := by simpa using hp
    have kO := hid (out_no w.heap.size (S.size + 1) c' addr a' Z w3 HS3.out h0 h1 hp)
    have hq := of_decide_eq_false hp
    have i3 : wrap64 ((6144 : Int) - (S.size : Int)) = 6144 - (S.size : Int) := by unfold wrap64; omega
    have i4 : wrap64 ((6144 : Int) - (S.size : Int) - 1) = 6144 - (S.size : Int) - 1 := by unfold wrap64; omega
    have hbey : (decide ((2048 : Int) ≤ (S.size : Int)) || decide (addr < 4096) || decide ((6144 : Int) - (S.size : Int) - 1 < addr)) = true := by
      simp
      omega
    have HQ := hid hbey
    clear hp hq hbey
    go_wp2_with fail
    refine kO.out.mono ?_
    rintro e w4 ⟨rfl, rfl⟩
    go_wp2_with fail
    all_goals go_ret
    all_goals exact ⟨by first | rfl | exact congrArg (fun b => Ending.returned (Value.bool b)) HQ.out, hB3⟩

end Go.Proofs.Ytnmgapnblmikeaa
