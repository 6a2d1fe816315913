/- Texts of this seat, merged. -/
import Derived.Test.YtoknhcjneliboaaGreatFMg7
import Derived.Test.YtoknhcjneliboaaGreatFMg10
import Derived.Test.YtoknhcjneliboaaGreatFMg8
import Derived.Test.YtoknhcjneliboaaGreatFMg6

/- What the document's split does. -/
namespace Go.Proofs.YtoknhcjneliboaaGreat
open Go.RowKit
set_option linter.unusedVariables false

theorem upto_at : ∀ (l : List UInt8) (k : Nat) (c : UInt8), k ≤ upto l → l[k]? = some c → (c = 47 → upto l = k) ∧ (c ≠ 47 → k + 1 ≤ upto l)
  | [], k, c, _, h => by simp at h
  | d :: r, 0, c, _, h => by
    simp at h
    subst h
    unfold upto
    exact ⟨fun e => by rw [if_pos e], fun e => by rw [if_neg e]; omega⟩
  | d :: r, k + 1, c, hk, h => by
    by_cases hd : d = 47
    · simp [upto, hd] at hk
    · have e : upto (d :: r) = upto r + 1 := by simp [upto, hd]
      rw [e] at hk ⊢
      have := upto_at r k c (by omega) (by simpa using h)
      exact ⟨fun e => by rw [this.1 e], fun e => by have := this.2 e; omega⟩
theorem bl_ext (t : ByteArray) (f i : Nat) : bl (t.extract f i) = ((bl t).drop f).take (i - f) := by
  simp [bl, ByteArray.data_extract, List.take_drop]

theorem infoS : (Tryz.prog.info? 9).map (fun i => (i.zero, i.size, i.bytes)) = some (some (.string ⟨#[]⟩), 1, 16) := by kernel_rfl

set_option maxHeartbeats 1000000 in
theorem split_none (t : ByteArray) (w : World) (h : bl t = []) :
    Calls Tryz.prog 119 #[.string t] w fun e w' => e = .returned (.tuple #[.slice none 0 0, .int .i64 22]) ∧ w' = w := by
  have h3 : (t.toList == []) = true := by
    rw [Lib.toList_data]
    simpa [bl] using h
  clear h
  go_enter Tryz.func119, Tryz.ntmps119
  go_wp2_with fail
  go_ret2
  exact ⟨rfl, rfl⟩

theorem byte_at {t : ByteArray} {i : Nat} {c : UInt8} (h : (bl t)[i]? = some c) : ∃ q : i < t.size, (t[i]'q) = c := by
  have q := (List.getElem?_eq_some_iff.1 h).1
  rw [bl_len] at q
  refine ⟨q, ?_⟩
  have := (List.getElem?_eq_some_iff.1 h).2
  exact this
theorem ne47 {c : UInt8} (h : c ≠ 47) : (((c.toNat : Nat) : Int) != 47) = true ∧ (((c.toNat : Nat) : Int) == 47) = false := by
  have : c.toNat ≠ 47 := fun e => h (UInt8.toNat_inj.1 e)
  constructor <;> simp <;> omega

set_option maxHeartbeats 1000000 in
theorem split_bad (t : ByteArray) (w : World) (c : UInt8) (r : List UInt8) (h : bl t = c :: r) (hc : c ≠ 47) :
    Calls Tryz.prog 119 #[.string t] w fun e w' => e = .returned (.tuple #[.slice none 0 0, .int .i64 22]) ∧ w' = w := by
  have h3 : (t.toList == []) = false := by
    rw [Lib.toList_data]
    have : t.data.toList = c :: r := h
    rw [this]; rfl
  obtain ⟨h4, h5⟩ := byte_at (t := t) (i := 0) (c := c) (by rw [h]; rfl)
  have h6 : ((((t[0]'h4).toNat : Nat) : Int) != 47) = true := by rw [h5]; exact (ne47 hc).1
  clear h h5
  go_enter Tryz.func119, Tryz.ntmps119
  go_wp2_with fail
  go_ret2
  exact ⟨rfl, rfl⟩

set_option maxHeartbeats 1000000 in
theorem split_root (t : ByteArray) (w : World) (h : bl t = [47]) :
    Calls Tryz.prog 119 #[.string t] w fun e w' => e = .returned (.tuple #[.slice none 0 0, .int .i64 0]) ∧ w' = w := by
  have h2 : t.data.toList = [47] := h
  have h3 : (t.toList == []) = false := by rw [Lib.toList_data, h2]; rfl
  have h3' : (t.toList == [47]) = true := by rw [Lib.toList_data, h2]; rfl
  obtain ⟨h4, h5⟩ := byte_at (t := t) (i := 0) (c := 47) (by rw [h]; rfl)
  have h6 : ((((t[0]'h4).toNat : Nat) : Int) != 47) = false := by rw [h5]; rfl
  clear h h5 h2
  go_enter Tryz.func119, Tryz.ntmps119
  go_wp2_with fail
  go_ret2
  exact ⟨rfl, rfl⟩

/-- How far split is: what is told, where the name begins. -/
def Spt (w wr : World) (t : ByteArray) (v : Value) (f i : Nat) : Prop :=
  ∃ (a : Option Addr) (n c : Nat) (xs : List ByteArray), v = .slice a n c ∧ xs.length = n ∧ n + 1 ≤ f ∧ f ≤ i ∧ spl ((bl t).drop 1) = xs.map bl ++ spl ((bl t).drop f) ∧ i - f ≤ upto ((bl t).drop f) ∧ wr.ownsRow w.heap.size 9 1 v n (xs.map Value.string) ∧ Below w.heap.size w wr

theorem cell_one (w : World) (v : Value) (ty : TypeId) : ∀ j u, ([v] : List Value)[j]? = some u → (w.alloc (.cells #[v] ty)).cell? ((⟨w.heap.size, 0, none⟩ : Addr).add j) = some u := by
  intro j u h
  cases j with
  | zero => simp at h; subst h; simp [Addr.add, go_sem]
  | succ j => simp at h

theorem index_at (t : ByteArray) (i : Nat) (h : i < t.size) (w : World) : (Instr.index 9 (.string t) (.int .i64 i)).run Tryz.prog w = .ok (.int .u8 (((t[i]'h).toNat : Nat) : Int)) w := by
  rw [run_index_string w 9 t .i64 i Tryz.underlying9, dif_pos ⟨by omega, by omega⟩]
  rfl

set_option maxHeartbeats 4000000 in
set_option maxRecDepth 20000 in
theorem split_ok (t : ByteArray) (w : World) (r : List UInt8) (h : bl t = 47 :: r) (hr : r ≠ []) (hs : t.size ≤ 1048576) :
    Calls Tryz.prog 119 #[.string t] w fun e w' => ∃ (a : Option Addr) (n c : Nat) (xs : List ByteArray), e = .returned (.tuple #[.slice a n c, .int .i64 0]) ∧ xs.length = n ∧ n ≤ 1048576 ∧ xs.map bl = spl r ∧ w'.ownsRow w.heap.size 9 1 (.slice a n c) n (xs.map Value.string) ∧ Below w.heap.size w w' := by
  obtain ⟨i0, hi0, hz0, hz1, hz2⟩ := info_parts infoS
  have h2 : t.data.toList = 47 :: r := h
  have h3 : (t.toList == []) = false := by rw [Lib.toList_data, h2]; rfl
  have h3' : (t.toList == [47]) = false := by
    rw [Lib.toList_data, h2]
    cases r with
    | nil => exact absurd rfl hr
    | cons x y => rfl
  obtain ⟨h4, h5⟩ := byte_at (t := t) (i := 0) (c := 47) (by rw [h]; rfl)
  have h6 : ((((t[0]'h4).toNat : Nat) : Int) != 47) = false := by rw [h5]; rfl
  have hlen : t.size = r.length + 1 := by rw [← bl_len, h]; rfl
  have hr1 : 1 ≤ r.length := by cases r with
    | nil => exact absurd rfl hr
    | cons x y => simp
  have HT : Hid (bl t = 47 :: r) := hid h
  have HLN := hid hlen
  have ht1 : 1 ≤ t.size := by omega
  have HI : Hid (Spt w w t (.slice none 0 0) 1 1) := hid ⟨none, 0, 0, [], rfl, rfl, by omega, by omega, by simp, by omega, World.ownsRow_nil _ _ _ _, Below.refl _ _⟩
  clear h h5 h2 hr hlen hr1
  go_enter Tryz.func119, Tryz.ntmps119
  go_wp2_with fail
  go_loopw [4, 5, 6] (fun v4 v5 v6 wr => ∃ f i : Nat, f ≤ t.size ∧ i ≤ t.size ∧ v5 = .int .i64 (f : Int) ∧ v6 = .int .i64 (i : Int) ∧ Hid (Spt w wr t v4 f i)) (fun _ _ v6 _ => t.size - (intOf v6).toNat)
  case atStart => exact ⟨1, 1, by omega, by omega, rfl, rfl, HI⟩
  case round =>
    clear HI
    obtain ⟨f, i, hf, hi, rfl, rfl, HQ⟩ := hrel
    obtain ⟨a, n, c, xs, rfl, hxl, hnf, hfi, hsp, hup, hO, hB⟩ := HQ.out
    have HSP := hid hsp
    have HUP := hid hup
    have HO := hid hO
    have HB := hid hB
    have hBs := hB.size
    have hxl' : Hid (xs.length = n) := hid hxl
    clear hsp hup hO hB HQ hxl
    have hfi' : (f : Int) ≤ (i : Int) := by omega
    have hi' : (i : Int) ≤ (t.size : Int) := by omega
    have hf' : (f : Int) ≤ (t.size : Int) := by omega
    have hf0 : (0 : Int) ≤ (f : Int) := by omega
    by_cases ei : i = t.size
    · have q1 : ¬ (i : Int) < (t.size : Int) := by omega
      have HE : Hid (i = t.size) := hid ei
      clear ei
      go_wp2_with (at_builtin; go_must (refine wpList_append_own _ rfl (.tmp 35) (.tmp 39) 45 rfl w.heap.size 9 i0 _ 1 16 Tryz.underlying45 hi0 hz0 hz1 hz2 rfl (by decide) _ n (xs.map Value.string) rfl (HO.out.alloc _) ⟨_, 0, none⟩ 1 1 [.string (t.extract f t.size)] rfl rfl (cell_one _ _ _) (by simp [Value.oneCell']) (by unfold maxLen; omega) (by omega) (by simp; omega) ?_))
      intro v' w6 hO hG hN
      have hbel : Below w.heap.size w w6 := (HB.out.alloc hBs (.cells #[.string (t.extract f t.size)] 9)).grown hG (by simp; omega) (fun x hx => (HO.out.lt x hx).1)
      obtain ⟨va, vc, rfl⟩ : ∃ va vc, v' = .slice va (n + 1) vc := by
        rcases hO.2 with ⟨h1, h2⟩ | ⟨g, c, cur, rfl, _⟩
        · omega
        · exact ⟨_, c, rfl⟩
      have HF : Hid ((xs ++ [t.extract f t.size]).map bl = spl r ∧ w6.ownsRow w.heap.size 9 1 (.slice va (n + 1) vc) (n + 1) ((xs ++ [t.extract f t.size]).map Value.string) ∧ Below w.heap.size w w6 ∧ (xs ++ [t.extract f t.size]).length = n + 1) := by
        refine hid ⟨?_, by simpa using hO, hbel, by simp [hxl'.out]⟩
        have e1 := HSP.out
        rw [HT.out] at e1
        rw [show (47 :: r).drop 1 = r from rfl, ← HT.out] at e1
        have e2 : spl ((bl t).drop f) = [(bl t).drop f] := by
          apply spl_no
          have h1 := HUP.out
          have h2 := upto_le ((bl t).drop f)
          have h3 : ((bl t).drop f).length = t.size - f := by rw [List.length_drop, bl_len]
          have h4 := HE.out
          omega
        rw [e1, e2, List.map_append]
        simp [bl_drop]
      have hn : n + 1 ≤ 1048576 := by omega
      clear hO hG hN hbel
      go_wp2_with fail
      go_ret2
      exact ⟨va, n + 1, vc, _, rfl, HF.out.2.2.2, hn, HF.out.1, HF.out.2.1, HF.out.2.2.1⟩
    · have q1 : (i : Int) < (t.size : Int) := by omega
      have hi2 : i < t.size := by omega
      have hx := index_at t i hi2
      obtain ⟨b, gb⟩ : ∃ b, b = t[i]'hi2 := ⟨_, rfl⟩
      rw [← gb] at hx
      have hbt : ((bl t).drop f)[i - f]? = some b := by
        rw [List.getElem?_drop, show f + (i - f) = i by omega, gb]
        exact List.getElem?_eq_some_iff.2 ⟨by rw [bl_len]; exact hi2, rfl⟩
      obtain ⟨u1, u2⟩ := upto_at _ _ _ HUP.out hbt
      have HBT := hid hbt
      clear gb hbt ei
      by_cases hb : b = 47
      · have HU1 := hid (u1 hb)
        have hb1 : (((b.toNat : Nat) : Int) == 47) = true := by rw [hb]; rfl
        clear u1 u2 hb
        go_wp2_with (at_builtin; go_must (refine wpList_append_own _ rfl (.tmp 26) (.tmp 31) 45 rfl w.heap.size 9 i0 _ 1 16 Tryz.underlying45 hi0 hz0 hz1 hz2 rfl (by decide) _ n (xs.map Value.string) rfl (HO.out.alloc _) ⟨_, 0, none⟩ 1 1 [.string (t.extract f i)] rfl rfl (cell_one _ _ _) (by simp [Value.oneCell']) (by unfold maxLen; omega) (by omega) (by simp; omega) ?_))
        intro v' w6 hO hG hN
        have hbel : Below w.heap.size w w6 := (HB.out.alloc hBs (.cells #[.string (t.extract f i)] 9)).grown hG (by simp; omega) (fun x hx => (HO.out.lt x hx).1)
        obtain ⟨va, vc, rfl⟩ : ∃ va vc, v' = .slice va (n + 1) vc := by
          rcases hO.2 with ⟨h1, h2⟩ | ⟨g, c, cur, rfl, _⟩
          · omega
          · exact ⟨_, c, rfl⟩
        have HQ2 : Hid (Spt w w6 t (.slice va (n + 1) vc) (i + 1) (i + 1)) := by
          refine hid ⟨va, n + 1, vc, xs ++ [t.extract f i], rfl, by simp [hxl'.out], by omega, by omega, ?_, by omega, by simpa using hO, hbel⟩
          have h1 := HU1.out
          have h3 : ((bl t).drop f).length = t.size - f := by rw [List.length_drop, bl_len]
          rw [HSP.out, spl_yes ((bl t).drop f) (by omega), h1, List.map_append, List.append_assoc, List.drop_drop, show f + (i - f + 1) = i + 1 by omega]
          simp [bl_ext]
        clear hO hG hN hbel HSP HUP HO HB HU1 hxl' HBT hx hb1
        go_wp2_with fail
        go_roundw
        case rel => exact ⟨i + 1, i + 1, by omega, by omega, by go_num, by go_num, HQ2⟩
        case measure => simp [intOf]; omega
      · have HU2 := hid (u2 hb)
        have hb1 := (ne47 hb).2
        clear u1 u2 hb
        have HQ2 : Hid (Spt w wr t (.slice a n c) f (i + 1)) := hid ⟨a, n, c, xs, rfl, hxl'.out, hnf, by omega, HSP.out, by have := HU2.out; omega, HO.out, HB.out⟩
        go_wp2_with fail
        go_roundw
        case rel => exact ⟨f, i + 1, by omega, by omega, rfl, by go_num, HQ2⟩
        case measure => simp [intOf]; omega

end Go.Proofs.YtoknhcjneliboaaGreat

/- What the document's walk, Find and end come to. -/
namespace Go.Proofs.YtoknhcjneliboaaGreat
open Go.RowKit
set_option linter.unusedVariables false
set_option maxRecDepth 20000

/-- A walk as the document walks. -/
def dwk (F : Fs) : Nat → List (List UInt8) → Nat × Int
  | n, [] => (n, 0)
  | n, s :: r => if nmd F n s ≠ 0 then (0, nmd F n s) else if lk (F.P n).Q s = 0 then (0, 2) else dwk F (lk (F.P n).Q s) r

theorem nmd_zero {F : Fs} {n : Nat} {s : List UInt8} (h : nmd F n s = 0) : (F.P n).k = 2 ∧ s ≠ [] ∧ s.length ≤ 6 := by
  unfold nmd at h
  split at h
  · omega
  rename_i h1
  split at h
  · omega
  rename_i h2
  split at h
  · omega
  rename_i h3
  exact ⟨Decidable.not_not.1 h1, h2, by omega⟩
theorem wk_nmd (F : Fs) (n : Nat) (y : List Nat) (s : List UInt8) (r : List (List UInt8)) (hk : F.K n ≠ 0) (h : nmd F n s ≠ 0) : wk F.K F.N n y (s :: r) = .error (nmd F n s) := by
  unfold nmd at h ⊢
  by_cases h1 : (F.P n).k ≠ 2
  · rw [if_pos h1]
    have h1' : F.K n ≠ 2 := h1
    cases r <;> simp [wk, hk, h1']
  · rw [if_neg h1] at h ⊢
    have h1' : F.K n = 2 := Decidable.not_not.1 h1
    by_cases h2 : s = []
    · rw [if_pos h2]; cases r <;> simp [wk, h1', h2]
    · rw [if_neg h2] at h ⊢
      by_cases h3 : 6 < s.length
      · rw [if_pos h3]; cases r <;> simp [wk, h1', h2, h3]
      · rw [if_neg h3] at h; exact absurd rfl h
theorem wk_step (F : Fs) (n : Nat) (y : List Nat) (s q : List UInt8) (r : List (List UInt8)) (h : nmd F n s = 0) : wk F.K F.N n y (s :: q :: r) = wk F.K F.N (F.N n s) (y ++ [n]) (q :: r) := by
  obtain ⟨h1, h2, h3⟩ := nmd_zero h
  have h1' : F.K n = 2 := h1
  conv => lhs; unfold wk
  simp [h1', h2, show ¬ 6 < s.length by omega]
theorem wk_end (F : Fs) (n : Nat) (y : List Nat) (s : List UInt8) (h : nmd F n s = 0) : wk F.K F.N n y [s] = .ok (y ++ [n], s, F.N n s) := by
  obtain ⟨h1, h2, h3⟩ := nmd_zero h
  have h1' : F.K n = 2 := h1
  simp [wk, h1', h2, show ¬ 6 < s.length by omega]

theorem wk_zero (F : Fs) (n : Nat) (y : List Nat) (s : List UInt8) (r : List (List UInt8)) (hz : F.K n = 0) : wk F.K F.N n y (s :: r) = .error 2 := by
  cases r with
  | nil => unfold wk; rw [if_pos hz]
  | cons q t => unfold wk; rw [if_pos hz]
theorem dwk_cons (F : Fs) (n : Nat) (s : List UInt8) (r : List (List UInt8)) : dwk F n (s :: r) = if nmd F n s ≠ 0 then (0, nmd F n s) else if lk (F.P n).Q s = 0 then (0, 2) else dwk F (lk (F.P n).Q s) r := rfl

/-- Both walks' ends. -/
theorem dwk_wk {F : Fs} (H : FOk F) (last : List UInt8) : ∀ (init : List (List UInt8)) (n : Nat) (y : List Nat), F.K n ≠ 0 →
    ((dwk F n init).2 ≠ 0 → wk F.K F.N n y (init ++ [last]) = .error (dwk F n init).2) ∧
    ((dwk F n init).2 = 0 → F.K (dwk F n init).1 ≠ 0 ∧ (nmd F (dwk F n init).1 last ≠ 0 → wk F.K F.N n y (init ++ [last]) = .error (nmd F (dwk F n init).1 last)) ∧
      (nmd F (dwk F n init).1 last = 0 → ∃ y', wk F.K F.N n y (init ++ [last]) = .ok (y', last, F.N (dwk F n init).1 last) ∧ Fs.dirOf y' = (dwk F n init).1))
  | [], n, y, hk => by
    refine ⟨fun h => absurd rfl h, fun _ => ⟨hk, fun h => wk_nmd F n y last [] hk h, fun h => ⟨y ++ [n], wk_end F n y last h, ?_⟩⟩⟩
    unfold Fs.dirOf
    rw [List.getLastD_eq_getLast?]
    simp [dwk]
  | s :: r, n, y, hk => by
    unfold dwk
    by_cases h1 : nmd F n s ≠ 0
    · rw [if_pos h1]
      refine ⟨fun _ => wk_nmd F n y s _ hk h1, fun h => absurd h h1⟩
    · rw [if_neg h1]
      have h1 := Decidable.not_not.1 h1
      have e : wk F.K F.N n y (s :: r ++ [last]) = wk F.K F.N (F.N n s) (y ++ [n]) (r ++ [last]) := by
        cases r with
        | nil => exact wk_step F n y s last [] h1
        | cons q t => exact wk_step F n y s q (t ++ [last]) h1
      rw [e]
      by_cases h2 : lk (F.P n).Q s = 0
      · rw [if_pos h2]
        refine ⟨fun _ => ?_, fun h => by simp at h⟩
        have hz : F.K (F.N n s) = 0 := by
          unfold Fs.K Fs.N
          rw [h2, H.zero]; rfl
        cases r with
        | nil => exact wk_zero F _ _ _ _ hz
        | cons q t => exact wk_zero F _ _ _ _ hz
      · rw [if_neg h2]
        obtain ⟨_, _, hk2, _⟩ := H.nm n _ (lk_mem h2)
        exact dwk_wk H last r (F.N n s) (y ++ [n]) hk2

/-- A whole path walked: Find's answer. -/
theorem dwk_find {F : Fs} (H : FOk F) (last : List UInt8) (init : List (List UInt8)) (n : Nat) (hk : F.K n ≠ 0) :
    dwk F n (init ++ [last]) = match wk F.K F.N n [] (init ++ [last]) with
      | .error e => (0, e)
      | .ok (_, _, m) => if m = 0 then (0, 2) else (m, 0) := by
  have hsplit : ∀ (l : List (List UInt8)) (n : Nat), dwk F n (l ++ [last]) = if (dwk F n l).2 ≠ 0 then (0, (dwk F n l).2) else dwk F (dwk F n l).1 [last] := by
    intro l
    induction l with
    | nil => intro n; simp only [List.nil_append, dwk]; exact (if_neg (fun h => h rfl)).symm
    | cons s r ih =>
      intro n
      show dwk F n (s :: (r ++ [last])) = _
      rw [dwk_cons, dwk_cons]
      by_cases h1 : nmd F n s ≠ 0
      · rw [if_pos h1, if_pos h1, if_pos h1]
      · rw [if_neg h1, if_neg h1]
        by_cases h2 : lk (F.P n).Q s = 0
        · rw [if_pos h2, if_pos h2, if_pos (by simp)]
        · rw [if_neg h2, if_neg h2]; exact ih _
  obtain ⟨a1, a2⟩ := dwk_wk H last init n [] hk
  rw [hsplit]
  by_cases h : (dwk F n init).2 ≠ 0
  · rw [if_pos h, a1 h]
  · rw [if_neg h]
    obtain ⟨b1, b2, b3⟩ := a2 (Decidable.not_not.1 h)
    unfold dwk
    by_cases h2 : nmd F (dwk F n init).1 last ≠ 0
    · rw [if_pos h2, b2 h2]
    · rw [if_neg h2]
      obtain ⟨y', e, _⟩ := b3 (Decidable.not_not.1 h2)
      rw [e]
      rfl

theorem dwk_lt {F : Fs} (H : FOk F) : ∀ (l : List (List UInt8)) (n : Nat), n < 17 → (dwk F n l).1 < 17
  | [], n, hn => hn
  | s :: r, n, hn => by
    unfold dwk
    split
    · show 0 < 17; omega
    · split
      · show 0 < 17; omega
      · rename_i h2
        exact dwk_lt H r _ (H.nm n _ (lk_mem h2)).2.1

set_option maxHeartbeats 4000000 in
theorem rwalk_any (x g u : Nat) (V : Nat → Value) (F : Fs) (w : World) (H : Rf w x g u V F) (hF : FOk F) (a : Option Addr) (n c : Nat) (xs : List ByteArray) (hn : xs.length = n) (hn2 : n ≤ 2 ^ 40) (hcell : ∀ j, ∀ h : j < xs.length, ∃ q, a = some ⟨q, 0, none⟩ ∧ q < w.heap.size ∧ w.cell? ⟨q, j, none⟩ = some (.string xs[j])) :
    Calls Tryz.prog 120 #[.pointer (some ⟨x, 0, none⟩), .slice a n c] w fun e w' => e = .returned (.tuple #[.int .i64 ((dwk F 1 (xs.map bl)).1 : Int), .int .i64 (dwk F 1 (xs.map bl)).2]) ∧ Below w.heap.size w w' := by
  obtain ⟨R, gR⟩ : ∃ R, R = dwk F 1 (xs.map bl) := ⟨_, rfl⟩
  rw [← gR]
  have GR := hid gR
  have HH := hid H
  have HF := hid hF
  have HC := hid hcell
  have HN := hid hn
  clear H hF hcell gR hn
  go_enter Tryz.func120, Tryz.ntmps120
  go_wp2_with fail
  go_loopw [6, 12] (fun v6 v12 wr => ∃ m j : Nat, m < 17 ∧ j ≤ n ∧ v6 = .int .i64 (m : Int) ∧ v12 = .int .i64 (j : Int) ∧ Hid (Below w.heap.size w wr) ∧ Hid (R = dwk F m ((xs.drop j).map bl))) (fun _ v12 _ => n - (intOf v12).toNat)
  case atStart => exact ⟨1, 0, by omega, Nat.zero_le _, rfl, rfl, hid (Below.refl _ _), hid (by rw [GR.out]; rfl)⟩
  case round =>
    obtain ⟨m, j, hm, hj, rfl, rfl, HB, HR⟩ := hrel
    by_cases hlt : j < n
    · have hj2 : (j : Int) < (n : Int) := by omega
      have hj3 : j + 1 ≤ n := hlt
      have hj0 : (0 : Int) ≤ (j : Int) := by omega
      have hjl : j < xs.length := by rw [HN.out]; exact hlt
      obtain ⟨q, rfl, hq, hcj⟩ := HC.out j hjl
      have d1 := (HB.out.cell (p := ⟨q, j, none⟩) hq).trans hcj
      have hHr := HH.out.grow HB.out
      have k1 := hid (rnamed_any x g u V F wr hHr m hm xs[j])
      have k2 := hid (rlook_any x g u V F wr hHr m hm (HF.out.len m) xs[j])
      have hdr : (xs.drop j).map bl = bl xs[j] :: (xs.drop (j + 1)).map bl := by rw [List.drop_eq_getElem_cons hjl, List.map_cons]
      have HR2 : Hid (R = if nmd F m (bl xs[j]) ≠ 0 then (0, nmd F m (bl xs[j])) else if lk (F.P m).Q (bl xs[j]) = 0 then (0, 2) else dwk F (lk (F.P m).Q (bl xs[j])) ((xs.drop (j + 1)).map bl)) := hid (by rw [HR.out, hdr]; rfl)
      have HL : Hid (lk (F.P m).Q (bl xs[j]) ≠ 0 → lk (F.P m).Q (bl xs[j]) < 17) := hid (fun h => (HF.out.nm m _ (lk_mem h)).2.1)
      obtain ⟨E, gE⟩ : ∃ E, E = nmd F m (bl xs[j]) := ⟨_, rfl⟩
      obtain ⟨K, gK⟩ : ∃ K, K = lk (F.P m).Q (bl xs[j]) := ⟨_, rfl⟩
      rw [← gE] at k1 HR2
      rw [← gK] at k2 HR2 HL
      generalize xs[j] = t at d1 k1 k2
      clear hcj hHr hdr gE gK HR
      by_cases hE : E = 0
      · have HR3 : Hid (R = if K = 0 then (0, 2) else dwk F K ((xs.drop (j + 1)).map bl)) := hid (by rw [HR2.out, if_neg (fun h => h hE)])
        subst hE
        clear HR2
        by_cases hK : K = 0
        · have HR4 : Hid (R = (0, 2)) := hid (by rw [HR3.out, if_pos hK])
          subst hK
          clear HR3 HL
          go_wp2_with fail
          refine k1.out.mono ?_
          rintro e w1 ⟨rfl, rfl⟩
          clear k1
          go_wp2_with fail
          refine k2.out.mono ?_
          rintro e w2 ⟨rfl, hb⟩
          have HB2 := hid (HB.out.trans (hb.mono HB.out.size))
          clear k2 hb
          go_wp2_with fail
          go_ret2
          rw [HR4.out]
          exact ⟨rfl, HB2.out⟩
        · have HR4 : Hid (R = dwk F K ((xs.drop (j + 1)).map bl)) := hid (by rw [HR3.out, if_neg hK])
          have hK1 : ¬ (K : Int) = 0 := by omega
          have hK2 := HL.out hK
          clear HR3 HL
          go_wp2_with fail
          refine k1.out.mono ?_
          rintro e w1 ⟨rfl, rfl⟩
          clear k1
          go_wp2_with fail
          refine k2.out.mono ?_
          rintro e w2 ⟨rfl, hb⟩
          have HB2 := hid (HB.out.trans (hb.mono HB.out.size))
          clear k2 hb
          go_wp2_with fail
          go_roundw
          case rel => exact ⟨K, j + 1, hK2, hj3, rfl, by go_num, HB2, HR4⟩
          case measure => simp [intOf]; omega
      · have HR4 : Hid (R = (0, E)) := hid (by rw [HR2.out, if_pos hE])
        clear HR2 HL k2
        go_wp2_with fail
        refine k1.out.mono ?_
        rintro e w1 ⟨rfl, rfl⟩
        clear k1
        go_wp2_with fail
        go_ret2
        rw [HR4.out]
        exact ⟨rfl, HB.out⟩
    · have hj2 : ¬ (j : Int) < (n : Int) := by omega
      have HR4 : Hid (R = (m, 0)) := hid (by rw [HR.out, List.drop_of_length_le (by have := HN.out; omega)]; rfl)
      clear HR
      go_wp2_with fail
      go_ret2
      rw [HR4.out]
      exact ⟨rfl, HB.out⟩

end Go.Proofs.YtoknhcjneliboaaGreat

/- The document's file system with a root alone: New, named, look, walk, end. -/
namespace Go.Proofs.YtoknhcjneliboaaGreat
open Go.RowKit
set_option linter.unusedVariables false

/-- A root alone. -/
structure R6 (w : World) (p b : Nat) : Prop where
  at0 : ∃ u d, w.heap[p]? = some (.cells #[.slice (some ⟨b, 0, none⟩) 17 17, u, d] 114 (0, 0))
  row : ∃ C : List Value, w.heap[b]? = some (.cells C.toArray 117 (0, 0)) ∧ C.length = 102 ∧ C[6]? = some (.int .i64 2) ∧ C[11]? = some (.slice none 0 0) ∧ C[12]? = some (.int .i64 0)
  ne : p ≠ b

theorem R6.c0 {w : World} {p b : Nat} (h : R6 w p b) : w.cell? ⟨p, 0, none⟩ = some (.slice (some ⟨b, 0, none⟩) 17 17) := by
  obtain ⟨u, d, h⟩ := h.at0
  rw [cell_of_row w _ 0 _ _ _ h]; rfl
theorem R6.cb {w : World} {p b : Nat} (h : R6 w p b) : w.cell? ⟨b, 6, none⟩ = some (.int .i64 2) ∧ w.cell? ⟨b, 11, none⟩ = some (.slice none 0 0) ∧ w.cell? ⟨b, 12, none⟩ = some (.int .i64 0) := by
  obtain ⟨C, h1, h2, h3, h4, h5⟩ := h.row
  exact ⟨cell_list h1 h3, cell_list h1 h4, cell_list h1 h5⟩
theorem R6.lt {w : World} {p b : Nat} (h : R6 w p b) : p < w.heap.size ∧ b < w.heap.size := by
  obtain ⟨u, d, h1⟩ := h.at0
  obtain ⟨C, h2, _⟩ := h.row
  exact ⟨(Array.getElem?_eq_some_iff.1 h1).1, (Array.getElem?_eq_some_iff.1 h2).1⟩
theorem R6.below {w w' : World} {p b : Nat} (h : R6 w p b) (u : Below w.heap.size w w') : R6 w' p b := by
  obtain ⟨l1, l2⟩ := h.lt
  obtain ⟨x, d, h1⟩ := h.at0
  obtain ⟨C, h2, h3⟩ := h.row
  exact ⟨⟨x, d, (u.block p l1).trans h1⟩, ⟨C, (u.block b l2).trans h2, h3⟩, h.ne⟩

/-- The error of a name at the root. -/
def nmE (s : ByteArray) : Int := if s.size = 0 then 22 else if 6 < s.size then 36 else 0

set_option maxHeartbeats 1000000 in
theorem named_any (p b : Nat) (s : ByteArray) (w : World) (H : R6 w p b) :
    Calls Tryz.prog 138 #[.pointer (some ⟨p, 0, none⟩), .int .i64 1, .string s] w fun e w' => e = .returned (.int .i64 (nmE s)) ∧ w' = w := by
  have c0 := H.c0
  obtain ⟨c1, _, _⟩ := H.cb
  clear H
  by_cases h : s.size = 0
  · have e : nmE s = 22 := by simp [nmE, h]
    rw [e]
    have h3 : (s.toList == []) = true := by
      rw [Lib.toList_data]
      have := bl_len s
      rw [h] at this
      have := List.eq_nil_of_length_eq_zero this
      simpa [bl] using this
    clear h e
    go_enter Tryz.func138, Tryz.ntmps138
    go_wp2_with fail
    go_ret
    exact ⟨rfl, rfl⟩
  · have h3 : (s.toList == []) = false := by
      rw [Lib.toList_data]
      have := bl_len s
      cases e : s.data.toList with
      | nil => unfold bl at this; rw [e] at this; simp at this; omega
      | cons x y => rfl
    by_cases h6 : 6 < s.size
    · have e : nmE s = 36 := by simp [nmE, h, h6]
      rw [e]
      have h4 : (6 : Int) < (s.size : Int) := by omega
      clear h e h6
      go_enter Tryz.func138, Tryz.ntmps138
      go_wp2_with fail
      go_ret
      exact ⟨rfl, rfl⟩
    · have e : nmE s = 0 := by simp [nmE, h, h6]
      rw [e]
      have h4 : ¬ (6 : Int) < (s.size : Int) := by omega
      clear h e h6
      go_enter Tryz.func138, Tryz.ntmps138
      go_wp2_with fail
      go_ret
      exact ⟨rfl, rfl⟩

set_option maxHeartbeats 1000000 in
theorem look_none (p b : Nat) (s : ByteArray) (w : World) (H : R6 w p b) :
    Calls Tryz.prog 109 #[.pointer (some ⟨p, 0, none⟩), .int .i64 1, .string s] w fun e w' => e = .returned (.int .i64 0) ∧ w' = w := by
  have c0 := H.c0
  obtain ⟨_, c1, _⟩ := H.cb
  clear H
  go_enter Tryz.func109, Tryz.ntmps109
  go_wp2_with fail
  go_loopw [18] (fun v18 wr => v18 = .int .i64 0 ∧ wr = w) (fun _ _ => 0)
  case atStart => exact ⟨rfl, rfl⟩
  case round =>
    obtain ⟨rfl, rfl⟩ := hrel
    go_wp2_with fail
    go_ret
    exact ⟨rfl, rfl⟩

set_option maxHeartbeats 1000000 in
theorem walk_root (p b : Nat) (a : Option Addr) (c : Nat) (w : World) :
    Calls Tryz.prog 120 #[.pointer (some ⟨p, 0, none⟩), .slice a 0 c] w fun e w' => e = .returned (.tuple #[.int .i64 1, .int .i64 0]) ∧ w' = w := by
  go_enter Tryz.func120, Tryz.ntmps120
  go_wp2_with fail
  go_loopw [6, 12] (fun v6 v12 wr => v6 = .int .i64 1 ∧ v12 = .int .i64 0 ∧ wr = w) (fun _ _ _ => 0)
  case atStart => exact ⟨rfl, rfl, rfl⟩
  case round =>
    obtain ⟨rfl, rfl, rfl⟩ := hrel
    go_wp2_with fail
    go_ret2
    exact ⟨rfl, rfl⟩

set_option maxHeartbeats 1000000 in
theorem walk_some (p b : Nat) (g o n c : Nat) (s : ByteArray) (w : World) (H : R6 w p b) (hn : 0 < n) (hs : w.cell? ⟨g, o, none⟩ = some (.string s)) :
    Calls Tryz.prog 120 #[.pointer (some ⟨p, 0, none⟩), .slice (some ⟨g, o, none⟩) n c] w fun e w' => e = .returned (.tuple #[.int .i64 0, .int .i64 (if nmE s = 0 then 2 else nmE s)]) ∧ w' = w := by
  have k1 := hid (named_any p b s w H)
  have k2 := hid (look_none p b s w H)
  have hn' : (0 : Int) < (n : Int) := by omega
  by_cases h : nmE s = 0
  · rw [if_pos h]
    rw [h] at k1
    clear H h
    go_enter Tryz.func120, Tryz.ntmps120
    go_wp2_with fail
    go_loopw [6, 12] (fun v6 v12 wr => v6 = .int .i64 1 ∧ v12 = .int .i64 0 ∧ wr = w) (fun _ _ _ => 0)
    case atStart => exact ⟨rfl, rfl, rfl⟩
    case round =>
      obtain ⟨rfl, rfl, rfl⟩ := hrel
      go_wp2_with fail
      refine k1.out.mono ?_
      rintro e w1 ⟨rfl, rfl⟩
      go_wp2_with fail
      refine k2.out.mono ?_
      rintro e w1 ⟨rfl, rfl⟩
      go_wp2_with fail
      go_ret2
      exact ⟨rfl, rfl⟩
  · rw [if_neg h]
    obtain ⟨E, gE⟩ : ∃ E, E = nmE s := ⟨_, rfl⟩
    rw [← gE] at k1 h ⊢
    clear H gE
    go_enter Tryz.func120, Tryz.ntmps120
    go_wp2_with fail
    go_loopw [6, 12] (fun v6 v12 wr => v6 = .int .i64 1 ∧ v12 = .int .i64 0 ∧ wr = w) (fun _ _ _ => 0)
    case atStart => exact ⟨rfl, rfl, rfl⟩
    case round =>
      obtain ⟨rfl, rfl, rfl⟩ := hrel
      go_wp2_with fail
      refine k1.out.mono ?_
      rintro e w1 ⟨rfl, rfl⟩
      go_wp2_with fail
      go_ret2
      exact ⟨rfl, rfl⟩

end Go.Proofs.YtoknhcjneliboaaGreat

/- What the document's walk to a path's end comes to, at a root alone. -/
namespace Go.Proofs.YtoknhcjneliboaaGreat
open Go.RowKit
set_option linter.unusedVariables false

/-- The error of a name; of a path. -/
def nmL (s : List UInt8) : Int := if s.length = 0 then 22 else if 6 < s.length then 36 else 0
theorem nmE_bl (s : ByteArray) : nmE s = nmL (bl s) := by unfold nmE nmL; rw [bl_len]
def splE : List (List UInt8) → Int
  | [] => 0
  | [s] => nmL s
  | s :: _ :: _ => if nmL s = 0 then 2 else nmL s
def endE (l : List UInt8) : Int := if l.head? = some 47 ∧ l ≠ [47] then splE (spl (l.drop 1)) else 22

theorem own_cells {w : World} {B n c : Nat} {a : Option Addr} {xs : List Value} (h : w.ownsRow B 9 1 (.slice a n c) n xs) (hn : 0 < n) :
    ∃ g, a = some ⟨g, 0, none⟩ ∧ g < w.heap.size ∧ n ≤ c ∧ c ≤ 9223372036854775807 ∧ ∀ j v, j < n → xs[j]? = some v → w.cell? ⟨g, j, none⟩ = some v := by
  obtain ⟨h1, h2⟩ := h
  rcases h2 with ⟨_, h2⟩ | ⟨g, c', cur, e, hb, hg, hnc, hcm, hcs, htake⟩
  · omega
  · injection e with r1 r2 r3
    subst r1
    subst r3
    refine ⟨g, rfl, (Array.getElem?_eq_some_iff.1 hg).1, hnc, by simpa [maxLen] using hcm, fun j v hj hv => ?_⟩
    have hh : w.ownsRow B 9 1 (.slice (some ⟨g, 0, none⟩) n c) n xs := ⟨h1, .inr ⟨g, c, cur, rfl, hb, hg, hnc, hcm, hcs, htake⟩⟩
    rw [hh.cellAt j (by omega)]
    exact hv

set_option maxHeartbeats 2000000 in
theorem end_short (p b : Nat) (t : ByteArray) (w : World) (h : ¬ ((bl t).head? = some 47 ∧ bl t ≠ [47])) :
    Calls Tryz.prog 108 #[.pointer (some ⟨p, 0, none⟩), .string t] w fun e w' => e = .returned (.tuple #[.int .i64 0, .string ⟨#[]⟩, .int .i64 22]) ∧ w' = w := by
  by_cases hr : bl t = [47]
  · have k1 := hid (split_root t w hr)
    clear h hr
    go_enter Tryz.func108, Tryz.ntmps108
    go_wp2_with fail
    refine k1.out.mono ?_
    rintro e w1 ⟨rfl, rfl⟩
    clear k1
    go_wp2_with fail
    go_ret3
    exact ⟨rfl, rfl⟩
  · have k1 : Hid (Calls Tryz.prog 119 #[.string t] w fun e w' => e = .returned (.tuple #[.slice none 0 0, .int .i64 22]) ∧ w' = w) := by
      cases e : bl t with
      | nil => exact hid (split_none t w e)
      | cons c r =>
        refine hid (split_bad t w c r e ?_)
        intro hc
        subst hc
        exact h ⟨by rw [e]; rfl, hr⟩
    clear h hr
    go_enter Tryz.func108, Tryz.ntmps108
    go_wp2_with fail
    refine k1.out.mono ?_
    rintro e w1 ⟨rfl, rfl⟩
    clear k1
    go_wp2_with fail
    go_ret3
    exact ⟨rfl, rfl⟩

set_option maxHeartbeats 2000000 in
set_option maxRecDepth 20000 in
theorem end_any (p b : Nat) (t : ByteArray) (w : World) (H : R6 w p b) (hs : t.size ≤ 1048576) :
    Calls Tryz.prog 108 #[.pointer (some ⟨p, 0, none⟩), .string t] w fun e w' => Below w.heap.size w w' ∧ ((endE (bl t) ≠ 0 ∧ e = .returned (.tuple #[.int .i64 0, .string ⟨#[]⟩, .int .i64 (endE (bl t))])) ∨ (endE (bl t) = 0 ∧ ∃ s, e = .returned (.tuple #[.int .i64 1, .string s, .int .i64 0]))) := by
  by_cases hg : ¬ ((bl t).head? = some 47 ∧ bl t ≠ [47])
  · refine (end_short p b t w hg).mono ?_
    rintro e w' ⟨rfl, rfl⟩
    have e : endE (bl t) = 22 := by unfold endE; rw [if_neg hg]
    exact ⟨Below.refl _ _, .inl ⟨by omega, by rw [e]⟩⟩
  · have hg := Decidable.not_not.1 hg
    have e0 : endE (bl t) = splE (spl ((bl t).drop 1)) := by unfold endE; rw [if_pos hg]
    obtain ⟨r, hr, hr0⟩ : ∃ r, bl t = 47 :: r ∧ r ≠ [] := by
      cases e : bl t with
      | nil => rw [e] at hg; simp at hg
      | cons c r =>
        rw [e] at hg
        obtain ⟨h1, h2⟩ := hg
        simp at h1
        subst h1
        exact ⟨r, rfl, fun q => h2 (by rw [q])⟩
    rw [hr] at e0 ⊢
    rw [show (47 :: r).drop 1 = r from rfl] at e0
    obtain ⟨E, gE⟩ : ∃ E, E = endE (47 :: r) := ⟨_, rfl⟩
    rw [← gE] at e0 ⊢
    have k1 := hid (split_ok t w r hr hr0 hs)
    have HE := hid e0
    have HR := hid H
    clear gE e0 hg hr hr0 H
    go_enter Tryz.func108, Tryz.ntmps108
    go_wp2_with fail
    refine k1.out.mono ?_
    rintro e w1 ⟨a, n, c, xs, rfl, hxl, hn, hxs, hO, hB⟩
    clear k1
    have hn1 : 0 < n := by
      rcases Nat.eq_zero_or_pos n with q | q
      · subst q
        rw [List.eq_nil_of_length_eq_zero hxl] at hxs
        exact absurd hxs.symm (spl_ne r)
      · exact q
    obtain ⟨g, rfl, hgl, hnc, hcm, hcell⟩ := own_cells hO hn1
    have HR1 := hid (HR.out.below hB)
    have HB := hid hB
    cases xs with
    | nil => simp at hxl; omega
    | cons x ys =>
      have hx0 := hcell 0 (.string x) hn1 (by simp)
      cases ys with
      | nil =>
        obtain rfl : n = 1 := by simp at hxl; omega
        have k2 := hid (walk_root p b (some ⟨g, 0, none⟩) c w1)
        have k3 := hid (named_any p b x w1 HR1.out)
        have hE : E = nmE x := by
          rw [HE.out, ← hxs, nmE_bl]
          rfl
        rw [← hE] at k3
        have hc' : (0 : Int) ≤ (c : Int) := by omega
        clear hxs hO hB hcell hxl HE HR HR1 hE
        by_cases h0 : E = 0
        · subst h0
          go_wp2_with fail
          refine k2.out.mono ?_
          rintro e w2 ⟨rfl, rfl⟩
          go_wp2_with fail
          refine k3.out.mono ?_
          rintro e w2 ⟨rfl, rfl⟩
          go_wp2_with fail
          go_ret3
          exact ⟨HB.out, x, rfl⟩
        · go_wp2_with fail
          refine k2.out.mono ?_
          rintro e w2 ⟨rfl, rfl⟩
          go_wp2_with fail
          refine k3.out.mono ?_
          rintro e w2 ⟨rfl, rfl⟩
          go_wp2_with fail
          go_ret3
          exact ⟨HB.out, .inl ⟨h0, rfl⟩⟩
      | cons y zs =>
        have hn2 : 2 ≤ n := by simp at hxl; omega
        have k2 := hid (walk_some p b g 0 (n - 1) c x w1 HR1.out (by omega) hx0)
        have hE : E = if nmE x = 0 then 2 else nmE x := by
          rw [HE.out, ← hxs, nmE_bl]
          rfl
        have h0 : ¬ E = 0 := by
          rw [hE]
          split
          · omega
          · assumption
        rw [← hE] at k2
        obtain ⟨m, rfl⟩ : ∃ m, n = m + 1 := ⟨n - 1, by omega⟩
        rw [show m + 1 - 1 = m from rfl] at k2
        have i1 : ¬ ((m + 1 : Nat) : Int) = 0 := by omega
        have i2 : IntKind.i64.wrap (((m + 1 : Nat) : Int) - 1) = (m : Int) := by rw [IntKind.wrap_i64]; omega
        have i3 : (0 : Int) ≤ (m : Int) := by omega
        have i4 : (m : Int) ≤ (c : Int) := by omega
        clear hxs hO hB hcell hxl HE HR HR1 hE
        go_wp2_with fail
        refine k2.out.mono ?_
        rintro e w2 ⟨rfl, rfl⟩
        go_wp2_with fail
        go_ret3
        exact ⟨HB.out, .inl ⟨h0, rfl⟩⟩

end Go.Proofs.YtoknhcjneliboaaGreat

/- What the document's Find and end tell. -/
namespace Go.Proofs.YtoknhcjneliboaaGreat
open Go.RowKit
set_option linter.unusedVariables false
set_option maxRecDepth 20000

theorem find_dwk {F : Fs} (H : FOk F) (r : List UInt8) (hr : r ≠ []) : F.find (47 :: r) = dwk F 1 (spl r) := by
  have hne : (47 :: r : List UInt8) ≠ [47] := fun e => hr (by simpa using e)
  have hk : F.K 1 ≠ 0 := by rw [show F.K 1 = 2 from H.root]; omega
  obtain ⟨init, last, e⟩ : ∃ init last, spl r = init ++ [last] := ⟨_, _, (List.dropLast_concat_getLast (spl_ne r)).symm⟩
  have h1 := dwk_find H last init 1 hk
  rw [← e] at h1
  rw [h1]
  unfold Fs.find
  rw [if_neg hne]
  unfold Fs.walk
  rw [if_pos ⟨rfl, hne⟩]
  show (match wk F.K F.N 1 [] (spl r) with | .error e => _ | .ok (_, _, n) => _) = _
  cases wk F.K F.N 1 [] (spl r) with
  | error e => rfl
  | ok q => rfl

theorem no_slash {l : List UInt8} (h : ¬ (l.head? = some 47 ∧ l ≠ [47])) (h2 : l ≠ [47]) : l = [] ∨ ∃ c r, l = c :: r ∧ c ≠ 47 := by
  cases l with
  | nil => exact .inl rfl
  | cons c r => exact .inr ⟨c, r, rfl, fun e => h ⟨by rw [e]; rfl, h2⟩⟩
theorem yes_slash {l : List UInt8} (h : l.head? = some 47 ∧ l ≠ [47]) : ∃ r, l = 47 :: r ∧ r ≠ [] := by
  cases l with
  | nil => simp at h
  | cons c r =>
    obtain ⟨h1, h2⟩ := h
    simp at h1
    subst h1
    exact ⟨r, rfl, fun q => h2 (by rw [q])⟩
theorem rsplit_no (t : ByteArray) (w : World) (h : ¬ ((bl t).head? = some 47 ∧ bl t ≠ [47])) (h2 : bl t ≠ [47]) :
    Calls Tryz.prog 119 #[.string t] w fun e w' => e = .returned (.tuple #[.slice none 0 0, .int .i64 22]) ∧ w' = w := by
  rcases no_slash h h2 with e | ⟨c, r, e, hc⟩
  · exact split_none t w e
  · exact split_bad t w c r e hc

set_option maxHeartbeats 2000000 in
theorem rfind_any (x g u : Nat) (V : Nat → Value) (F : Fs) (w : World) (H : Rf w x g u V F) (hF : FOk F) (t : ByteArray) (hs : t.size ≤ 1048576) :
    Calls Tryz.prog 82 #[.pointer (some ⟨x, 0, none⟩), .string t] w fun e w' => e = .returned (.tuple #[.int .i64 ((F.find (bl t)).1 : Int), .int .i64 (F.find (bl t)).2]) ∧ Below w.heap.size w w' := by
  by_cases hr : bl t = [47]
  · have k1 := hid (split_root t w hr)
    have k2 := hid (rwalk_any x g u V F w H hF none 0 0 [] rfl (by omega) (fun j h => absurd h (Nat.not_lt_zero _)))
    rw [show F.find (bl t) = (1, 0) from by unfold Fs.find; rw [if_pos hr]]
    clear hr H hF
    go_enter Tryz.func82, Tryz.ntmps82
    go_wp2_with fail
    refine k1.out.mono ?_
    rintro e w1 ⟨rfl, rfl⟩
    clear k1
    go_wp2_with fail
    refine k2.out.mono ?_
    rintro e w2 ⟨rfl, hb⟩
    clear k2
    go_wp2_with fail
    first | (go_ret2; exact ⟨rfl, hb⟩) | exact ⟨rfl, hb⟩
  by_cases hg : (bl t).head? = some 47 ∧ bl t ≠ [47]
  · obtain ⟨r, hr, hr0⟩ := yes_slash hg
    have k1 := hid (split_ok t w r hr hr0 hs)
    rw [hr, find_dwk hF r hr0]
    have HR := hid H
    have HF := hid hF
    obtain ⟨R, gR⟩ : ∃ R, R = dwk F 1 (spl r) := ⟨_, rfl⟩
    rw [← gR]
    have GR := hid gR
    clear hr hr0 hg H hF gR
    go_enter Tryz.func82, Tryz.ntmps82
    go_wp2_with fail
    refine k1.out.mono ?_
    rintro e w1 ⟨a, n, c, xs, rfl, hxl, hn, hxs, hO, hB⟩
    clear k1
    have hn1 : 0 < n := by
      rcases Nat.eq_zero_or_pos n with q | q
      · subst q
        rw [List.eq_nil_of_length_eq_zero hxl] at hxs
        exact absurd hxs.symm (spl_ne r)
      · exact q
    obtain ⟨q, rfl, hql, hnc, hcm, hcell⟩ := own_cells hO hn1
    have k2 := hid (rwalk_any x g u V F w1 (HR.out.grow hB) HF.out (some ⟨q, 0, none⟩) n c xs hxl (by omega) (fun j h => ⟨q, rfl, hql, hcell j _ (by omega) (by simp [List.getElem?_eq_getElem h])⟩))
    rw [hxs, ← GR.out] at k2
    have HB := hid hB
    clear hxs hO hB hcell hxl HR HF GR
    go_wp2_with fail
    refine k2.out.mono ?_
    rintro e w2 ⟨rfl, hb⟩
    have HB2 := hid (HB.out.trans (hb.mono HB.out.size))
    clear k2
    go_wp2_with fail
    first | (go_ret2; exact ⟨rfl, HB2.out⟩) | exact ⟨rfl, HB2.out⟩
  · have k1 := hid (rsplit_no t w hg hr)
    rw [show F.find (bl t) = (0, 22) from by unfold Fs.find Fs.walk; rw [if_neg hr, if_neg hg]]
    clear hg hr H hF
    go_enter Tryz.func82, Tryz.ntmps82
    go_wp2_with fail
    refine k1.out.mono ?_
    rintro e w1 ⟨rfl, rfl⟩
    clear k1
    go_wp2_with fail
    go_ret2
    exact ⟨rfl, Below.refl _ _⟩

/-- What end tells: a path's directory and its last name. -/
def EndR (F : Fs) (l : List UInt8) (v : Value) : Prop := (∃ e, F.walk l = .error e ∧ v = .tuple #[.int .i64 0, .string ⟨#[]⟩, .int .i64 e]) ∨ (∃ y s n, F.walk l = .ok (y, s, n) ∧ v = .tuple #[.int .i64 (Fs.dirOf y : Int), .string (bs s), .int .i64 0])

set_option maxHeartbeats 2000000 in
theorem rend_any (x g u : Nat) (V : Nat → Value) (F : Fs) (w : World) (H : Rf w x g u V F) (hF : FOk F) (t : ByteArray) (hs : t.size ≤ 1048576) :
    Calls Tryz.prog 108 #[.pointer (some ⟨x, 0, none⟩), .string t] w fun e w' => (∃ v, e = .returned v ∧ EndR F (bl t) v) ∧ Below w.heap.size w w' := by
  by_cases hg : ¬ ((bl t).head? = some 47 ∧ bl t ≠ [47])
  · refine (end_short x g t w hg).mono ?_
    rintro e w' ⟨rfl, rfl⟩
    exact ⟨⟨_, rfl, .inl ⟨22, by unfold Fs.walk; rw [if_neg hg], rfl⟩⟩, Below.refl _ _⟩
  have hg := Decidable.not_not.1 hg
  obtain ⟨r, hr, hr0⟩ := yes_slash hg
  have k1 := hid (split_ok t w r hr hr0 hs)
  have hk : F.K 1 ≠ 0 := by rw [show F.K 1 = 2 from hF.root]; omega
  have hw : F.walk (bl t) = wk F.K F.N 1 [] (spl r) := by unfold Fs.walk; rw [if_pos hg, hr]; rfl
  have HW := hid hw
  have HR := hid H
  have HF := hid hF
  have HK := hid hk
  clear hr hr0 hg H hF hk hw
  go_enter Tryz.func108, Tryz.ntmps108
  go_wp2_with fail
  refine k1.out.mono ?_
  rintro e w1 ⟨a, n, c, xs, rfl, hxl, hn, hxs, hO, hB⟩
  clear k1
  have hn1 : 0 < n := by
    rcases Nat.eq_zero_or_pos n with q | q
    · subst q
      rw [List.eq_nil_of_length_eq_zero hxl] at hxs
      exact absurd hxs.symm (spl_ne r)
    · exact q
  obtain ⟨q, rfl, hql, hnc, hcm, hcell⟩ := own_cells hO hn1
  have hxn : xs ≠ [] := fun e => by rw [e] at hxl; simp at hxl; omega
  obtain ⟨init, last, rfl⟩ : ∃ init last, xs = init ++ [last] := ⟨_, _, (List.dropLast_concat_getLast hxn).symm⟩
  obtain ⟨m, rfl⟩ : ∃ m, n = m + 1 := ⟨n - 1, by omega⟩
  have hil : init.length = m := by simpa using hxl
  have hlast := hcell m (.string last) (by omega) (by rw [List.map_append, List.getElem?_append_right (by simp; omega)]; simp [hil])
  have HB := hid hB
  have HR1 := hid (HR.out.grow hB)
  have k2 := hid (rwalk_any x g u V F w1 HR1.out HF.out (some ⟨q, 0, none⟩) m c init hil (by omega) (fun j h => ⟨q, rfl, hql, hcell j _ (by omega) (by rw [List.map_append, List.getElem?_append_left (by simp; omega)]; simp [List.getElem?_eq_getElem h])⟩))
  obtain ⟨A1, A2⟩ := dwk_wk HF.out (bl last) (init.map bl) 1 [] HK.out
  have hlt := dwk_lt HF.out (init.map bl) 1 (by omega)
  have e0 : F.walk (bl t) = wk F.K F.N 1 [] (init.map bl ++ [bl last]) := by rw [HW.out, ← hxs]; simp
  rw [← e0] at A1 A2
  obtain ⟨R, gR⟩ : ∃ R, R = dwk F 1 (init.map bl) := ⟨_, rfl⟩
  rw [← gR] at k2 A1 A2 hlt
  obtain ⟨d, E⟩ := R
  simp only at k2 A1 A2 hlt
  have i1 : ¬ ((m + 1 : Nat) : Int) = 0 := by omega
  have i2 : IntKind.i64.wrap (((m + 1 : Nat) : Int) - 1) = (m : Int) := by rw [IntKind.wrap_i64]; omega
  have i3 : (0 : Int) ≤ (m : Int) := by omega
  have i4 : (m : Int) ≤ (c : Int) := by omega
  have i5 : (m : Int) < ((m + 1 : Nat) : Int) := by omega
  by_cases hE : E ≠ 0
  · have HA := hid (A1 hE)
    clear A1 A2 hxs hO hB hcell hxl HW HF HK HR gR e0 hlast hxn
    go_wp2_with fail
    refine k2.out.mono ?_
    rintro e w2 ⟨rfl, hb⟩
    have HB2 := hid (HB.out.trans (hb.mono HB.out.size))
    clear k2 hb
    go_wp2_with fail
    go_ret3
    exact ⟨⟨_, rfl, .inl ⟨E, HA.out, rfl⟩⟩, HB2.out⟩
  · obtain rfl : E = 0 := Decidable.not_not.1 hE
    obtain ⟨B1, B2, B3⟩ := A2 rfl
    obtain ⟨M, gM⟩ : ∃ M, M = nmd F d (bl last) := ⟨_, rfl⟩
    by_cases hM : nmd F d (bl last) ≠ 0
    · have HA := hid (B2 hM)
      have hM2 : M ≠ 0 := by rw [gM]; exact hM
      rw [← gM] at HA
      have GM := hid gM
      clear A1 A2 B1 B2 B3 hxs hO hB hcell hxl HW HF HK HR gR e0 hxn hM gM hE
      go_wp2_with fail
      refine k2.out.mono ?_
      rintro e w2 ⟨rfl, hb⟩
      have HB2 := hid (HB.out.trans (hb.mono HB.out.size))
      have k3 := hid (rnamed_any x g u V F w2 (HR1.out.grow hb) d hlt last)
      rw [← GM.out] at k3
      have hl2 := (hb.cell (p := ⟨q, m, none⟩) hql).trans hlast
      clear k2 hb hlast
      go_wp2_with fail
      refine k3.out.mono ?_
      rintro e w3 ⟨rfl, rfl⟩
      clear k3
      go_wp2_with fail
      go_ret3
      exact ⟨⟨_, rfl, .inl ⟨M, HA.out, rfl⟩⟩, HB2.out⟩
    · have hM2 : M = 0 := by rw [gM]; exact Decidable.not_not.1 hM
      subst hM2
      obtain ⟨y', hy, hd⟩ := B3 gM.symm
      have HA := hid (And.intro hy hd)
      have GM := hid gM
      clear A1 A2 B1 B2 B3 hxs hO hB hcell hxl HW HF HK HR gR e0 hxn hM gM hE hy hd
      go_wp2_with fail
      refine k2.out.mono ?_
      rintro e w2 ⟨rfl, hb⟩
      have HB2 := hid (HB.out.trans (hb.mono HB.out.size))
      have k3 := hid (rnamed_any x g u V F w2 (HR1.out.grow hb) d hlt last)
      rw [← GM.out] at k3
      have hl2 := (hb.cell (p := ⟨q, m, none⟩) hql).trans hlast
      clear k2 hb hlast
      go_wp2_with fail
      refine k3.out.mono ?_
      rintro e w3 ⟨rfl, rfl⟩
      clear k3
      go_wp2_with fail
      go_ret3
      refine ⟨⟨_, rfl, .inr ⟨y', bl last, _, HA.out.1, ?_⟩⟩, HB2.out⟩
      rw [HA.out.2, bs_bl]; rfl

end Go.Proofs.YtoknhcjneliboaaGreat

/- What the document's New of nodes makes. -/
namespace Go.Proofs.YtoknhcjneliboaaGreat
open Go.RowKit
set_option linter.unusedVariables false

theorem made_zs {P : Program} (t e : TypeId) (n : Nat) (z : Value) (size bytes : Nat) (ht : P.underlying t = some (.slice e)) (hi : (P.info? e).map (fun i => (i.zero, i.size, i.bytes)) = some (some z, size, bytes)) (hb : bytes * n ≤ 281474976710656) (hn : n ≤ 1000) :
    ∀ W : World, (Instr.makeSlice t (.int .i64 (n : Int)) (.int .i64 (n : Int))).run P W = .ok (.slice (some ⟨W.heap.size, 0, none⟩) n n) (W.alloc (.cells (madeCells z.cells (n * size)) e)) := by
  obtain ⟨i, hi0, hz0, hz1, hz2⟩ := info_parts hi
  intro W
  have := run_make (P := P) W t e i z ht hi0 hz0 .i64 .i64 (n : Int) (n : Int) (by omega) (by omega) (by rw [hz2]; omega) (by omega)
  simpa [hz1] using this

theorem infoR6 : (Tryz.prog.info? 117).map (fun i => (i.zero, i.size, i.bytes)) = some (some (.agg #[.int .i64 0, .int .i64 0, .int .i64 0, .slice none 0 0, .slice none 0 0, .slice none 0 0]), 6, 96) := by kernel_rfl
theorem infoR6b : (Tryz.prog.info? 4).map (fun i => (i.zero, i.size, i.bytes)) = some (some (.bool false), 1, 1) := by kernel_rfl
theorem csizeR6 : (Tryz.prog.info? 117).map (·.size) = some 6 := by kernel_rfl
theorem builtR6 : Tryz.prog.built 117 [(0, .int .i64 2), (1, .int .i64 1)] = some #[.int .i64 2, .int .i64 1, .int .i64 0, .slice none 0 0, .slice none 0 0, .slice none 0 0] := by kernel_rfl

/-- The cells of no nodes. -/
def noR6 : List Value := (madeCells (Value.agg #[.int .i64 0, .int .i64 0, .int .i64 0, .slice none 0 0, .slice none 0 0, .slice none 0 0]).cells (17 * 6)).toList
theorem noR6_len : noR6.length = 102 := by simp [noR6, size_madeCells]
theorem noR6_12 : noR6[12]? = some (.int .i64 0) := by kernel_rfl

theorem two_allocs (w : World) (a b : Obj) : Below w.heap.size w ((w.alloc a).alloc b) := ((Below.refl _ _).alloc (Nat.le_refl _) _).alloc (by simp) _
theorem three_allocs (w : World) (a b c : Obj) : Below w.heap.size w (((w.alloc a).alloc b).alloc c) := (two_allocs w a b).alloc (by simp; omega) _
theorem first_block (w : World) (C : List Value) (t : TypeId) (b c : Obj) : ((((w.alloc (.cells C.toArray t)).alloc b).alloc c)).heap[w.heap.size]? = some (.cells C.toArray t (0, 0)) := by
  have h := (two_allocs (w.alloc (.cells C.toArray t)) b c).block w.heap.size (by simp)
  exact h.trans (heap_alloc_new w _)
theorem second_block (w : World) (C : List Value) (t : TypeId) (b c : Obj) : ((((w.alloc b).alloc (.cells C.toArray t)).alloc c)).heap[w.heap.size + 1]? = some (.cells C.toArray t (0, 0)) := by
  have h := ((Below.refl _ ((w.alloc b).alloc (.cells C.toArray t))).alloc (Nat.le_refl _) c).block (w.heap.size + 1) (by simp)
  have k := heap_alloc_new (w.alloc b) (.cells C.toArray t)
  rw [show (w.alloc b).heap.size = w.heap.size + 1 by simp] at k
  exact h.trans k

/-- The root is laid. -/
theorem R6.made {w : World} {p b : Nat} {u d : Value} {N : List Value} (hN : N = [.int .i64 2, .int .i64 1, .int .i64 0, .slice none 0 0, .slice none 0 0, .slice none 0 0]) (h1 : w.heap[p]? = some (.cells #[.slice (some ⟨b, 0, none⟩) 17 17, u, d] 114 (0, 0))) (h2 : w.heap[b]? = some (.cells noR6.toArray 117 (0, 0))) (hn : p ≠ b) : R6 (w.setCells b 6 N) p b := by
  have h3 := heap_setCells b 117 N 6 w noR6 h2 (by rw [noR6_len, hN]; simp)
  refine ⟨⟨u, d, ((upd_setCells b N 6 w).block p (Array.getElem?_eq_some_iff.1 h1).1 hn).trans h1⟩, ⟨_, h3, ?_, ?_, ?_, ?_⟩, hn⟩
  · rw [length_splice _ _ _ (by rw [noR6_len, hN]; simp)]; exact noR6_len
  · rw [show 6 = 6 + 0 from rfl, getElem?_splice_in _ _ _ _ (by rw [noR6_len, hN]; simp) (by rw [hN]; simp), hN]; rfl
  · rw [show 11 = 6 + 5 from rfl, getElem?_splice_in _ _ _ _ (by rw [noR6_len, hN]; simp) (by rw [hN]; simp), hN]; rfl
  · rw [getElem?_splice_out _ _ _ _ (by rw [noR6_len, hN]; simp) (by rw [hN]; simp)]; exact noR6_12

set_option maxHeartbeats 2000000 in
set_option maxRecDepth 20000 in
theorem r6new (w : World) :
    Calls Tryz.prog 14 #[.int .i64 0] w fun e w' => ∃ p b, e = .returned (.pointer (some ⟨p, 0, none⟩)) ∧ R6 w' p b ∧ w.heap.size ≤ p ∧ w.heap.size ≤ b ∧ Below w.heap.size w w' := by
  obtain ⟨C, gC⟩ : ∃ C, C = noR6 := ⟨_, rfl⟩
  have hm' : ∀ W : World, (Instr.makeSlice 111 (.int .i64 17) (.int .i64 17)).run Tryz.prog W = .ok (.slice (some ⟨W.heap.size, 0, none⟩) 17 17) (W.alloc (.cells C.toArray 117)) := by
    rw [gC]
    exact made_zs (P := Tryz.prog) 111 117 17 _ _ _ Tryz.underlying111 infoR6 (by omega) (by omega)
  obtain ⟨D, gD⟩ : ∃ D, D = madeCells (Value.bool false).cells (25 * 1) := ⟨_, rfl⟩
  have hk' : ∀ W : World, (Instr.makeSlice 112 (.int .i64 25) (.int .i64 25)).run Tryz.prog W = .ok (.slice (some ⟨W.heap.size, 0, none⟩) 25 25) (W.alloc (.cells D 4)) := by
    rw [gD]
    exact made_zs (P := Tryz.prog) 112 4 25 _ _ _ Tryz.underlying112 infoR6b (by omega) (by omega)
  have HL : Hid (C.length = 102) := by rw [gC]; exact hid noR6_len
  obtain ⟨N, gN⟩ : ∃ N : List Value, N = [.int .i64 2, .int .i64 1, .int .i64 0, .slice none 0 0, .slice none 0 0, .slice none 0 0] := ⟨_, rfl⟩
  have H1 : Hid (N.toArray.all (·.oneCell') = true) := by rw [gN]; exact hid (by simp [Value.oneCell'])
  have HSZ : Hid ((Tryz.prog.info? 117).map (·.size) = some N.toArray.size) := by rw [gN]; exact hid csizeR6
  have HB : Hid (Tryz.prog.built 117 [(0, .int .i64 2), (1, .int .i64 1)] = some N.toArray) := by rw [gN]; exact hid builtR6
  have HT : Hid (6 = N.toArray.size) := by rw [gN]; exact hid rfl
  have HN := hid gN
  have HC := hid gC
  clear gN gD gC
  go_enter Tryz.func14, Tryz.ntmps14
  go_wp2_with fail
  go_region_held3 (fun _ => True) (trivial) (fail)
  all_goals go_wp2_with (first
    | (refine wpList_build_is rfl 117 #[(0, .const (.int .i64 2)), (1, .const (.int .i64 1))] rfl N.toArray (by simpa [Act.eval] using HB.out) ?_)
    | (refine wpList_store_mid rfl 117 (.tmp 14) (.tmp 13) rfl w.heap.size 6 N.toArray rfl rfl (by rw [← HT.out]; exact there_of_block (C := C) (t := 117) (by exact first_block w C 117 _ _) 6 6 (by rw [HL.out]; omega)) HSZ.out H1.out ?_)
    | (refine wpList_store_mid rfl 117 (.tmp 14) (.tmp 13) rfl (w.heap.size + 1) 6 N.toArray rfl rfl (by rw [← HT.out]; exact there_of_block (C := C) (t := 117) (by exact second_block w C 117 _ _) 6 6 (by rw [HL.out]; omega)) HSZ.out H1.out ?_))
  all_goals go_ret
  · obtain ⟨W, gW⟩ : ∃ W, W = (((w.alloc (.cells C.toArray 117)).alloc (.cells D 4)).alloc (.cells #[.slice (some ⟨w.heap.size, 0, none⟩) 17 17, .slice (some ⟨w.heap.size + 1, 0, none⟩) 25 25, .int .i64 0] 114)).drew := ⟨_, rfl⟩
    have hb : Below w.heap.size w W := by rw [gW]; exact (three_allocs w _ _ _).drew
    have hp : W.heap[w.heap.size + 2]? = some (.cells #[.slice (some ⟨w.heap.size, 0, none⟩) 17 17, .slice (some ⟨w.heap.size + 1, 0, none⟩) 25 25, .int .i64 0] 114 (0, 0)) := by
      rw [gW]
      have k := heap_alloc_new ((w.alloc (.cells C.toArray 117)).alloc (.cells D 4)) (.cells #[.slice (some ⟨w.heap.size, 0, none⟩) 17 17, .slice (some ⟨w.heap.size + 1, 0, none⟩) 25 25, .int .i64 0] 114)
      rw [show ((w.alloc (.cells C.toArray 117)).alloc (.cells D 4)).heap.size = w.heap.size + 2 by simp] at k
      exact k
    have hq : W.heap[w.heap.size]? = some (.cells noR6.toArray 117 (0, 0)) := by rw [gW, ← HC.out]; exact first_block w C 117 _ _
    rw [← gW]
    exact ⟨_, _, rfl, R6.made HN.out hp hq (by omega), by omega, by omega, hb.trans ((upd_setCells w.heap.size _ _ _).below hb.size (fun x hx => by omega))⟩
  · obtain ⟨W, gW⟩ : ∃ W, W = (((w.alloc (.cells D 4)).alloc (.cells C.toArray 117)).alloc (.cells #[.slice (some ⟨w.heap.size + 1, 0, none⟩) 17 17, .slice (some ⟨w.heap.size, 0, none⟩) 25 25, .int .i64 0] 114)).drew := ⟨_, rfl⟩
    have hb : Below w.heap.size w W := by rw [gW]; exact (three_allocs w _ _ _).drew
    have hp : W.heap[w.heap.size + 2]? = some (.cells #[.slice (some ⟨w.heap.size + 1, 0, none⟩) 17 17, .slice (some ⟨w.heap.size, 0, none⟩) 25 25, .int .i64 0] 114 (0, 0)) := by
      rw [gW]
      have k := heap_alloc_new ((w.alloc (.cells D 4)).alloc (.cells C.toArray 117)) (.cells #[.slice (some ⟨w.heap.size + 1, 0, none⟩) 17 17, .slice (some ⟨w.heap.size, 0, none⟩) 25 25, .int .i64 0] 114)
      rw [show ((w.alloc (.cells D 4)).alloc (.cells C.toArray 117)).heap.size = w.heap.size + 2 by simp] at k
      exact k
    have hq : W.heap[w.heap.size + 1]? = some (.cells noR6.toArray 117 (0, 0)) := by rw [gW, ← HC.out]; exact second_block w C 117 _ _
    rw [← gW]
    exact ⟨_, _, rfl, R6.made HN.out hp hq (by omega), by omega, by omega, hb.trans ((upd_setCells (w.heap.size + 1) _ _ _).below hb.size (fun x hx => by omega))⟩

end Go.Proofs.YtoknhcjneliboaaGreat
