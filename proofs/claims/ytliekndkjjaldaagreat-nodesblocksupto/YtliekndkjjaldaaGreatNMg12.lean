/- Texts of this seat, merged. -/
import Derived.Test.YtliekndkjjaldaaGreatNMg5
import Derived.Test.YtliekndkjjaldaaGreatNMg11
import Derived.Test.YtliekndkjjaldaaGreatNMg6

/- What the document's split does. -/
namespace Go.Proofs.YtliekndkjjaldaaGreat
open Go.RowKit
set_option linter.unusedVariables false

theorem upto_at : ∀ (l : List UInt8) (k : Nat) (c : UInt8), k ≤ upto l → l[k]? = some c → (c = 47 → upto l = k) ∧ (c ≠ 47 → k + 1 ≤ upto l)
  | [], k, c, _, h => by simp at h
  | d :: r, 0, c, _, h => by
    simp at h
    subst h
    unfold upto
    exact ⟨fun e => by rw [if_pos e], fun e => by rw [if_neg e]; omega⟩
  | d :: r, k + 1, c, hk, h => by
    by_cases hd : d = 47
    · simp [upto, hd] at hk
    · have e : upto (d :: r) = upto r + 1 := by simp [upto, hd]
      rw [e] at hk ⊢
      have := upto_at r k c (by omega) (by simpa using h)
      exact ⟨fun e => by rw [this.1 e], fun e => by have := this.2 e; omega⟩
theorem bl_ext (t : ByteArray) (f i : Nat) : bl (t.extract f i) = ((bl t).drop f).take (i - f) := by
  simp [bl, ByteArray.data_extract, List.take_drop]

theorem infoS : (Tryz.prog.info? 9).map (fun i => (i.zero, i.size, i.bytes)) = some (some (.string ⟨#[]⟩), 1, 16) := by kernel_rfl

set_option maxHeartbeats 1000000 in
theorem split_none (t : ByteArray) (w : World) (h : bl t = []) :
    Calls Tryz.prog 55 #[.string t] w fun e w' => e = .returned (.tuple #[.slice none 0 0, .int .i64 22]) ∧ w' = w := by
  have h3 : (t.toList == []) = true := by
    rw [Lib.toList_data]
    simpa [bl] using h
  clear h
  go_enter Tryz.func55, Tryz.ntmps55
  go_wp2_with fail
  go_ret2
  exact ⟨rfl, rfl⟩

theorem byte_at {t : ByteArray} {i : Nat} {c : UInt8} (h : (bl t)[i]? = some c) : ∃ q : i < t.size, (t[i]'q) = c := by
  have q := (List.getElem?_eq_some_iff.1 h).1
  rw [bl_len] at q
  refine ⟨q, ?_⟩
  have := (List.getElem?_eq_some_iff.1 h).2
  exact this
theorem ne47 {c : UInt8} (h : c ≠ 47) : (((c.toNat : Nat) : Int) != 47) = true ∧ (((c.toNat : Nat) : Int) == 47) = false := by
  have : c.toNat ≠ 47 := fun e => h (UInt8.toNat_inj.1 e)
  constructor <;> simp <;> omega

set_option maxHeartbeats 1000000 in
theorem split_bad (t : ByteArray) (w : World) (c : UInt8) (r : List UInt8) (h : bl t = c :: r) (hc : c ≠ 47) :
    Calls Tryz.prog 55 #[.string t] w fun e w' => e = .returned (.tuple #[.slice none 0 0, .int .i64 22]) ∧ w' = w := by
  have h3 : (t.toList == []) = false := by
    rw [Lib.toList_data]
    have : t.data.toList = c :: r := h
    rw [this]; rfl
  obtain ⟨h4, h5⟩ := byte_at (t := t) (i := 0) (c := c) (by rw [h]; rfl)
  have h6 : ((((t[0]'h4).toNat : Nat) : Int) != 47) = true := by rw [h5]; exact (ne47 hc).1
  clear h h5
  go_enter Tryz.func55, Tryz.ntmps55
  go_wp2_with fail
  go_ret2
  exact ⟨rfl, rfl⟩

set_option maxHeartbeats 1000000 in
theorem split_root (t : ByteArray) (w : World) (h : bl t = [47]) :
    Calls Tryz.prog 55 #[.string t] w fun e w' => e = .returned (.tuple #[.slice none 0 0, .int .i64 0]) ∧ w' = w := by
  have h2 : t.data.toList = [47] := h
  have h3 : (t.toList == []) = false := by rw [Lib.toList_data, h2]; rfl
  have h3' : (t.toList == [47]) = true := by rw [Lib.toList_data, h2]; rfl
  obtain ⟨h4, h5⟩ := byte_at (t := t) (i := 0) (c := 47) (by rw [h]; rfl)
  have h6 : ((((t[0]'h4).toNat : Nat) : Int) != 47) = false := by rw [h5]; rfl
  clear h h5 h2
  go_enter Tryz.func55, Tryz.ntmps55
  go_wp2_with fail
  go_ret2
  exact ⟨rfl, rfl⟩

/-- How far split is: what is told, where the name begins. -/
def Spt (w wr : World) (t : ByteArray) (v : Value) (f i : Nat) : Prop :=
  ∃ (a : Option Addr) (n c : Nat) (xs : List ByteArray), v = .slice a n c ∧ xs.length = n ∧ n + 1 ≤ f ∧ f ≤ i ∧ spl ((bl t).drop 1) = xs.map bl ++ spl ((bl t).drop f) ∧ i - f ≤ upto ((bl t).drop f) ∧ wr.ownsRow w.heap.size 9 1 v n (xs.map Value.string) ∧ Below w.heap.size w wr

theorem cell_one (w : World) (v : Value) (ty : TypeId) : ∀ j u, ([v] : List Value)[j]? = some u → (w.alloc (.cells #[v] ty)).cell? ((⟨w.heap.size, 0, none⟩ : Addr).add j) = some u := by
  intro j u h
  cases j with
  | zero => simp at h; subst h; simp [Addr.add, go_sem]
  | succ j => simp at h

theorem index_at (t : ByteArray) (i : Nat) (h : i < t.size) (w : World) : (Instr.index 9 (.string t) (.int .i64 i)).run Tryz.prog w = .ok (.int .u8 (((t[i]'h).toNat : Nat) : Int)) w := by
  rw [run_index_string w 9 t .i64 i Tryz.underlying9, dif_pos ⟨by omega, by omega⟩]
  rfl

set_option maxHeartbeats 4000000 in
set_option maxRecDepth 20000 in
theorem split_ok (t : ByteArray) (w : World) (r : List UInt8) (h : bl t = 47 :: r) (hr : r ≠ []) (hs : t.size ≤ 1048576) :
    Calls Tryz.prog 55 #[.string t] w fun e w' => ∃ (a : Option Addr) (n c : Nat) (xs : List ByteArray), e = .returned (.tuple #[.slice a n c, .int .i64 0]) ∧ xs.length = n ∧ n ≤ 1048576 ∧ xs.map bl = spl r ∧ w'.ownsRow w.heap.size 9 1 (.slice a n c) n (xs.map Value.string) ∧ Below w.heap.size w w' := by
  obtain ⟨i0, hi0, hz0, hz1, hz2⟩ := info_parts infoS
  have h2 : t.data.toList = 47 :: r := h
  have h3 : (t.toList == []) = false := by rw [Lib.toList_data, h2]; rfl
  have h3' : (t.toList == [47]) = false := by
    rw [Lib.toList_data, h2]
    cases r with
    | nil => exact absurd rfl hr
    | cons x y => rfl
  obtain ⟨h4, h5⟩ := byte_at (t := t) (i := 0) (c := 47) (by rw [h]; rfl)
  have h6 : ((((t[0]'h4).toNat : Nat) : Int) != 47) = false := by rw [h5]; rfl
  have hlen : t.size = r.length + 1 := by rw [← bl_len, h]; rfl
  have hr1 : 1 ≤ r.length := by cases r with
    | nil => exact absurd rfl hr
    | cons x y => simp
  have HT : Hid (bl t = 47 :: r) := hid h
  have HLN := hid hlen
  have ht1 : 1 ≤ t.size := by omega
  have HI : Hid (Spt w w t (.slice none 0 0) 1 1) := hid ⟨none, 0, 0, [], rfl, rfl, by omega, by omega, by simp, by omega, World.ownsRow_nil _ _ _ _, Below.refl _ _⟩
  clear h h5 h2 hr hlen hr1
  go_enter Tryz.func55, Tryz.ntmps55
  go_wp2_with fail
  go_loopw [4, 5, 6] (fun v4 v5 v6 wr => ∃ f i : Nat, f ≤ t.size ∧ i ≤ t.size ∧ v5 = .int .i64 (f : Int) ∧ v6 = .int .i64 (i : Int) ∧ Hid (Spt w wr t v4 f i)) (fun _ _ v6 _ => t.size - (intOf v6).toNat)
  case atStart => exact ⟨1, 1, by omega, by omega, rfl, rfl, HI⟩
  case round =>
    clear HI
    obtain ⟨f, i, hf, hi, rfl, rfl, HQ⟩ := hrel
    obtain ⟨a, n, c, xs, rfl, hxl, hnf, hfi, hsp, hup, hO, hB⟩ := HQ.out
    have HSP := hid hsp
    have HUP := hid hup
    have HO := hid hO
    have HB := hid hB
    have hBs := hB.size
    have hxl' : Hid (xs.length = n) := hid hxl
    clear hsp hup hO hB HQ hxl
    have hfi' : (f : Int) ≤ (i : Int) := by omega
    have hi' : (i : Int) ≤ (t.size : Int) := by omega
    have hf' : (f : Int) ≤ (t.size : Int) := by omega
    have hf0 : (0 : Int) ≤ (f : Int) := by omega
    by_cases ei : i = t.size
    · have q1 : ¬ (i : Int) < (t.size : Int) := by omega
      have HE : Hid (i = t.size) := hid ei
      clear ei
      go_wp2_with (at_builtin; go_must (refine wpList_append_own _ rfl (.tmp 35) (.tmp 39) 42 rfl w.heap.size 9 i0 _ 1 16 Tryz.underlying42 hi0 hz0 hz1 hz2 rfl (by decide) _ n (xs.map Value.string) rfl (HO.out.alloc _) ⟨_, 0, none⟩ 1 1 [.string (t.extract f t.size)] rfl rfl (cell_one _ _ _) (by simp [Value.oneCell']) (by unfold maxLen; omega) (by omega) (by simp; omega) ?_))
      intro v' w6 hO hG hN
      have hbel : Below w.heap.size w w6 := (HB.out.alloc hBs (.cells #[.string (t.extract f t.size)] 9)).grown hG (by simp; omega) (fun x hx => (HO.out.lt x hx).1)
      obtain ⟨va, vc, rfl⟩ : ∃ va vc, v' = .slice va (n + 1) vc := by
        rcases hO.2 with ⟨h1, h2⟩ | ⟨g, c, cur, rfl, _⟩
        · omega
        · exact ⟨_, c, rfl⟩
      have HF : Hid ((xs ++ [t.extract f t.size]).map bl = spl r ∧ w6.ownsRow w.heap.size 9 1 (.slice va (n + 1) vc) (n + 1) ((xs ++ [t.extract f t.size]).map Value.string) ∧ Below w.heap.size w w6 ∧ (xs ++ [t.extract f t.size]).length = n + 1) := by
        refine hid ⟨?_, by simpa using hO, hbel, by simp [hxl'.out]⟩
        have e1 := HSP.out
        rw [HT.out] at e1
        rw [show (47 :: r).drop 1 = r from rfl, ← HT.out] at e1
        have e2 : spl ((bl t).drop f) = [(bl t).drop f] := by
          apply spl_no
          have h1 := HUP.out
          have h2 := upto_le ((bl t).drop f)
          have h3 : ((bl t).drop f).length = t.size - f := by rw [List.length_drop, bl_len]
          have h4 := HE.out
          omega
        rw [e1, e2, List.map_append]
        simp [bl_drop]
      have hn : n + 1 ≤ 1048576 := by omega
      clear hO hG hN hbel
      go_wp2_with fail
      go_ret2
      exact ⟨va, n + 1, vc, _, rfl, HF.out.2.2.2, hn, HF.out.1, HF.out.2.1, HF.out.2.2.1⟩
    · have q1 : (i : Int) < (t.size : Int) := by omega
      have hi2 : i < t.size := by omega
      have hx := index_at t i hi2
      obtain ⟨b, gb⟩ : ∃ b, b = t[i]'hi2 := ⟨_, rfl⟩
      rw [← gb] at hx
      have hbt : ((bl t).drop f)[i - f]? = some b := by
        rw [List.getElem?_drop, show f + (i - f) = i by omega, gb]
        exact List.getElem?_eq_some_iff.2 ⟨by rw [bl_len]; exact hi2, rfl⟩
      obtain ⟨u1, u2⟩ := upto_at _ _ _ HUP.out hbt
      have HBT := hid hbt
      clear gb hbt ei
      by_cases hb : b = 47
      · have HU1 := hid (u1 hb)
        have hb1 : (((b.toNat : Nat) : Int) == 47) = true := by rw [hb]; rfl
        clear u1 u2 hb
        go_wp2_with (at_builtin; go_must (refine wpList_append_own _ rfl (.tmp 26) (.tmp 31) 42 rfl w.heap.size 9 i0 _ 1 16 Tryz.underlying42 hi0 hz0 hz1 hz2 rfl (by decide) _ n (xs.map Value.string) rfl (HO.out.alloc _) ⟨_, 0, none⟩ 1 1 [.string (t.extract f i)] rfl rfl (cell_one _ _ _) (by simp [Value.oneCell']) (by unfold maxLen; omega) (by omega) (by simp; omega) ?_))
        intro v' w6 hO hG hN
        have hbel : Below w.heap.size w w6 := (HB.out.alloc hBs (.cells #[.string (t.extract f i)] 9)).grown hG (by simp; omega) (fun x hx => (HO.out.lt x hx).1)
        obtain ⟨va, vc, rfl⟩ : ∃ va vc, v' = .slice va (n + 1) vc := by
          rcases hO.2 with ⟨h1, h2⟩ | ⟨g, c, cur, rfl, _⟩
          · omega
          · exact ⟨_, c, rfl⟩
        have HQ2 : Hid (Spt w w6 t (.slice va (n + 1) vc) (i + 1) (i + 1)) := by
          refine hid ⟨va, n + 1, vc, xs ++ [t.extract f i], rfl, by simp [hxl'.out], by omega, by omega, ?_, by omega, by simpa using hO, hbel⟩
          have h1 := HU1.out
          have h3 : ((bl t).drop f).length = t.size - f := by rw [List.length_drop, bl_len]
          rw [HSP.out, spl_yes ((bl t).drop f) (by omega), h1, List.map_append, List.append_assoc, List.drop_drop, show f + (i - f + 1) = i + 1 by omega]
          simp [bl_ext]
        clear hO hG hN hbel HSP HUP HO HB HU1 hxl' HBT hx hb1
        go_wp2_with fail
        go_roundw
        case rel => exact ⟨i + 1, i + 1, by omega, by omega, by go_num, by go_num, HQ2⟩
        case measure => simp [intOf]; omega
      · have HU2 := hid (u2 hb)
        have hb1 := (ne47 hb).2
        clear u1 u2 hb
        have HQ2 : Hid (Spt w wr t (.slice a n c) f (i + 1)) := hid ⟨a, n, c, xs, rfl, hxl'.out, hnf, by omega, HSP.out, by have := HU2.out; omega, HO.out, HB.out⟩
        go_wp2_with fail
        go_roundw
        case rel => exact ⟨f, i + 1, by omega, by omega, rfl, by go_num, HQ2⟩
        case measure => simp [intOf]; omega

end Go.Proofs.YtliekndkjjaldaaGreat

/- What the document's walk, Find and end come to. -/
namespace Go.Proofs.YtliekndkjjaldaaGreat
open Go.RowKit
set_option linter.unusedVariables false
set_option maxRecDepth 20000

/-- A walk as the document walks. -/
def dwk (F : Fs) : Nat → List (List UInt8) → Nat × Int
  | n, [] => (n, 0)
  | n, s :: r => if nmd F n s ≠ 0 then (0, nmd F n s) else if lk (F.P n).Q s = 0 then (0, 2) else dwk F (lk (F.P n).Q s) r

theorem nmd_zero {F : Fs} {n : Nat} {s : List UInt8} (h : nmd F n s = 0) : (F.P n).k = 2 ∧ s ≠ [] ∧ s.length ≤ 6 := by
  unfold nmd at h
  split at h
  · omega
  rename_i h1
  split at h
  · omega
  rename_i h2
  split at h
  · omega
  rename_i h3
  exact ⟨Decidable.not_not.1 h1, h2, by omega⟩
theorem wk_nmd (F : Fs) (n : Nat) (y : List Nat) (s : List UInt8) (r : List (List UInt8)) (hk : F.K n ≠ 0) (h : nmd F n s ≠ 0) : wk F.K F.N n y (s :: r) = .error (nmd F n s) := by
  unfold nmd at h ⊢
  by_cases h1 : (F.P n).k ≠ 2
  · rw [if_pos h1]
    have h1' : F.K n ≠ 2 := h1
    cases r <;> simp [wk, hk, h1']
  · rw [if_neg h1] at h ⊢
    have h1' : F.K n = 2 := Decidable.not_not.1 h1
    by_cases h2 : s = []
    · rw [if_pos h2]; cases r <;> simp [wk, h1', h2]
    · rw [if_neg h2] at h ⊢
      by_cases h3 : 6 < s.length
      · rw [if_pos h3]; cases r <;> simp [wk, h1', h2, h3]
      · rw [if_neg h3] at h; exact absurd rfl h
theorem wk_step (F : Fs) (n : Nat) (y : List Nat) (s q : List UInt8) (r : List (List UInt8)) (h : nmd F n s = 0) : wk F.K F.N n y (s :: q :: r) = wk F.K F.N (F.N n s) (y ++ [n]) (q :: r) := by
  obtain ⟨h1, h2, h3⟩ := nmd_zero h
  have h1' : F.K n = 2 := h1
  conv => lhs; unfold wk
  simp [h1', h2, show ¬ 6 < s.length by omega]
theorem wk_end (F : Fs) (n : Nat) (y : List Nat) (s : List UInt8) (h : nmd F n s = 0) : wk F.K F.N n y [s] = .ok (y ++ [n], s, F.N n s) := by
  obtain ⟨h1, h2, h3⟩ := nmd_zero h
  have h1' : F.K n = 2 := h1
  simp [wk, h1', h2, show ¬ 6 < s.length by omega]

theorem wk_zero (F : Fs) (n : Nat) (y : List Nat) (s : List UInt8) (r : List (List UInt8)) (hz : F.K n = 0) : wk F.K F.N n y (s :: r) = .error 2 := by
  cases r with
  | nil => unfold wk; rw [if_pos hz]
  | cons q t => unfold wk; rw [if_pos hz]
theorem dwk_cons (F : Fs) (n : Nat) (s : List UInt8) (r : List (List UInt8)) : dwk F n (s :: r) = if nmd F n s ≠ 0 then (0, nmd F n s) else if lk (F.P n).Q s = 0 then (0, 2) else dwk F (lk (F.P n).Q s) r := rfl

/-- Both walks' ends. -/
theorem dwk_wk {F : Fs} (H : FOk F) (last : List UInt8) : ∀ (init : List (List UInt8)) (n : Nat) (y : List Nat), F.K n ≠ 0 →
    ((dwk F n init).2 ≠ 0 → wk F.K F.N n y (init ++ [last]) = .error (dwk F n init).2) ∧
    ((dwk F n init).2 = 0 → F.K (dwk F n init).1 ≠ 0 ∧ (nmd F (dwk F n init).1 last ≠ 0 → wk F.K F.N n y (init ++ [last]) = .error (nmd F (dwk F n init).1 last)) ∧
      (nmd F (dwk F n init).1 last = 0 → ∃ y', wk F.K F.N n y (init ++ [last]) = .ok (y', last, F.N (dwk F n init).1 last) ∧ Fs.dirOf y' = (dwk F n init).1))
  | [], n, y, hk => by
    refine ⟨fun h => absurd rfl h, fun _ => ⟨hk, fun h => wk_nmd F n y last [] hk h, fun h => ⟨y ++ [n], wk_end F n y last h, ?_⟩⟩⟩
    unfold Fs.dirOf
    rw [List.getLastD_eq_getLast?]
    simp [dwk]
  | s :: r, n, y, hk => by
    unfold dwk
    by_cases h1 : nmd F n s ≠ 0
    · rw [if_pos h1]
      refine ⟨fun _ => wk_nmd F n y s _ hk h1, fun h => absurd h h1⟩
    · rw [if_neg h1]
      have h1 := Decidable.not_not.1 h1
      have e : wk F.K F.N n y (s :: r ++ [last]) = wk F.K F.N (F.N n s) (y ++ [n]) (r ++ [last]) := by
        cases r with
        | nil => exact wk_step F n y s last [] h1
        | cons q t => exact wk_step F n y s q (t ++ [last]) h1
      rw [e]
      by_cases h2 : lk (F.P n).Q s = 0
      · rw [if_pos h2]
        refine ⟨fun _ => ?_, fun h => by simp at h⟩
        have hz : F.K (F.N n s) = 0 := by
          unfold Fs.K Fs.N
          rw [h2, H.zero]; rfl
        cases r with
        | nil => exact wk_zero F _ _ _ _ hz
        | cons q t => exact wk_zero F _ _ _ _ hz
      · rw [if_neg h2]
        obtain ⟨_, _, hk2, _⟩ := H.nm n _ (lk_mem h2)
        exact dwk_wk H last r (F.N n s) (y ++ [n]) hk2

/-- A whole path walked: Find's answer. -/
theorem dwk_find {F : Fs} (H : FOk F) (last : List UInt8) (init : List (List UInt8)) (n : Nat) (hk : F.K n ≠ 0) :
    dwk F n (init ++ [last]) = match wk F.K F.N n [] (init ++ [last]) with
      | .error e => (0, e)
      | .ok (_, _, m) => if m = 0 then (0, 2) else (m, 0) := by
  have hsplit : ∀ (l : List (List UInt8)) (n : Nat), dwk F n (l ++ [last]) = if (dwk F n l).2 ≠ 0 then (0, (dwk F n l).2) else dwk F (dwk F n l).1 [last] := by
    intro l
    induction l with
    | nil => intro n; simp only [List.nil_append, dwk]; exact (if_neg (fun h => h rfl)).symm
    | cons s r ih =>
      intro n
      show dwk F n (s :: (r ++ [last])) = _
      rw [dwk_cons, dwk_cons]
      by_cases h1 : nmd F n s ≠ 0
      · rw [if_pos h1, if_pos h1, if_pos h1]
      · rw [if_neg h1, if_neg h1]
        by_cases h2 : lk (F.P n).Q s = 0
        · rw [if_pos h2, if_pos h2, if_pos (by simp)]
        · rw [if_neg h2, if_neg h2]; exact ih _
  obtain ⟨a1, a2⟩ := dwk_wk H last init n [] hk
  rw [hsplit]
  by_cases h : (dwk F n init).2 ≠ 0
  · rw [if_pos h, a1 h]
  · rw [if_neg h]
    obtain ⟨b1, b2, b3⟩ := a2 (Decidable.not_not.1 h)
    unfold dwk
    by_cases h2 : nmd F (dwk F n init).1 last ≠ 0
    · rw [if_pos h2, b2 h2]
    · rw [if_neg h2]
      obtain ⟨y', e, _⟩ := b3 (Decidable.not_not.1 h2)
      rw [e]
      rfl

theorem dwk_lt {F : Fs} (H : FOk F) : ∀ (l : List (List UInt8)) (n : Nat), n < 17 → (dwk F n l).1 < 17
  | [], n, hn => hn
  | s :: r, n, hn => by
    unfold dwk
    split
    · show 0 < 17; omega
    · split
      · show 0 < 17; omega
      · rename_i h2
        exact dwk_lt H r _ (H.nm n _ (lk_mem h2)).2.1

set_option maxHeartbeats 4000000 in
theorem rwalk_any (x g u : Nat) (V : Nat → Value) (F : Fs) (w : World) (H : Rf w x g u V F) (hF : FOk F) (a : Option Addr) (n c : Nat) (xs : List ByteArray) (hn : xs.length = n) (hn2 : n ≤ 2 ^ 40) (hcell : ∀ j, ∀ h : j < xs.length, ∃ q, a = some ⟨q, 0, none⟩ ∧ q < w.heap.size ∧ w.cell? ⟨q, j, none⟩ = some (.string xs[j])) :
    Calls Tryz.prog 56 #[.pointer (some ⟨x, 0, none⟩), .slice a n c] w fun e w' => e = .returned (.tuple #[.int .i64 ((dwk F 1 (xs.map bl)).1 : Int), .int .i64 (dwk F 1 (xs.map bl)).2]) ∧ Below w.heap.size w w' := by
  obtain ⟨R, gR⟩ : ∃ R, R = dwk F 1 (xs.map bl) := ⟨_, rfl⟩
  rw [← gR]
  have GR := hid gR
  have HH := hid H
  have HF := hid hF
  have HC := hid hcell
  have HN := hid hn
  clear H hF hcell gR hn
  go_enter Tryz.func56, Tryz.ntmps56
  go_wp2_with fail
  go_loopw [6, 12] (fun v6 v12 wr => ∃ m j : Nat, m < 17 ∧ j ≤ n ∧ v6 = .int .i64 (m : Int) ∧ v12 = .int .i64 (j : Int) ∧ Hid (Below w.heap.size w wr) ∧ Hid (R = dwk F m ((xs.drop j).map bl))) (fun _ v12 _ => n - (intOf v12).toNat)
  case atStart => exact ⟨1, 0, by omega, Nat.zero_le _, rfl, rfl, hid (Below.refl _ _), hid (by rw [GR.out]; rfl)⟩
  case round =>
    obtain ⟨m, j, hm, hj, rfl, rfl, HB, HR⟩ := hrel
    by_cases hlt : j < n
    · have hj2 : (j : Int) < (n : Int) := by omega
      have hj3 : j + 1 ≤ n := hlt
      have hj0 : (0 : Int) ≤ (j : Int) := by omega
      have hjl : j < xs.length := by rw [HN.out]; exact hlt
      obtain ⟨q, rfl, hq, hcj⟩ := HC.out j hjl
      have d1 := (HB.out.cell (p := ⟨q, j, none⟩) hq).trans hcj
      have hHr := HH.out.grow HB.out
      have k1 := hid (rnamed_any x g u V F wr hHr m hm xs[j])
      have k2 := hid (rlook_any x g u V F wr hHr m hm (HF.out.len m) xs[j])
      have hdr : (xs.drop j).map bl = bl xs[j] :: (xs.drop (j + 1)).map bl := by rw [List.drop_eq_getElem_cons hjl, List.map_cons]
      have HR2 : Hid (R = if nmd F m (bl xs[j]) ≠ 0 then (0, nmd F m (bl xs[j])) else if lk (F.P m).Q (bl xs[j]) = 0 then (0, 2) else dwk F (lk (F.P m).Q (bl xs[j])) ((xs.drop (j + 1)).map bl)) := hid (by rw [HR.out, hdr]; rfl)
      have HL : Hid (lk (F.P m).Q (bl xs[j]) ≠ 0 → lk (F.P m).Q (bl xs[j]) < 17) := hid (fun h => (HF.out.nm m _ (lk_mem h)).2.1)
      obtain ⟨E, gE⟩ : ∃ E, E = nmd F m (bl xs[j]) := ⟨_, rfl⟩
      obtain ⟨K, gK⟩ : ∃ K, K = lk (F.P m).Q (bl xs[j]) := ⟨_, rfl⟩
      rw [← gE] at k1 HR2
      rw [← gK] at k2 HR2 HL
      generalize xs[j] = t at d1 k1 k2
      clear hcj hHr hdr gE gK HR
      by_cases hE : E = 0
      · have HR3 : Hid (R = if K = 0 then (0, 2) else dwk F K ((xs.drop (j + 1)).map bl)) := hid (by rw [HR2.out, if_neg (fun h => h hE)])
        subst hE
        clear HR2
        by_cases hK : K = 0
        · have HR4 : Hid (R = (0, 2)) := hid (by rw [HR3.out, if_pos hK])
          subst hK
          clear HR3 HL
          go_wp2_with fail
          refine k1.out.mono ?_
          rintro e w1 ⟨rfl, rfl⟩
          clear k1
          go_wp2_with fail
          refine k2.out.mono ?_
          rintro e w2 ⟨rfl, hb⟩
          have HB2 := hid (HB.out.trans (hb.mono HB.out.size))
          clear k2 hb
          go_wp2_with fail
          go_ret2
          rw [HR4.out]
          exact ⟨rfl, HB2.out⟩
        · have HR4 : Hid (R = dwk F K ((xs.drop (j + 1)).map bl)) := hid (by rw [HR3.out, if_neg hK])
          have hK1 : ¬ (K : Int) = 0 := by omega
          have hK2 := HL.out hK
          clear HR3 HL
          go_wp2_with fail
          refine k1.out.mono ?_
          rintro e w1 ⟨rfl, rfl⟩
          clear k1
          go_wp2_with fail
          refine k2.out.mono ?_
          rintro e w2 ⟨rfl, hb⟩
          have HB2 := hid (HB.out.trans (hb.mono HB.out.size))
          clear k2 hb
          go_wp2_with fail
          go_roundw
          case rel => exact ⟨K, j + 1, hK2, hj3, rfl, by go_num, HB2, HR4⟩
          case measure => simp [intOf]; omega
      · have HR4 : Hid (R = (0, E)) := hid (by rw [HR2.out, if_pos hE])
        clear HR2 HL k2
        go_wp2_with fail
        refine k1.out.mono ?_
        rintro e w1 ⟨rfl, rfl⟩
        clear k1
        go_wp2_with fail
        go_ret2
        rw [HR4.out]
        exact ⟨rfl, HB.out⟩
    · have hj2 : ¬ (j : Int) < (n : Int) := by omega
      have HR4 : Hid (R = (m, 0)) := hid (by rw [HR.out, List.drop_of_length_le (by have := HN.out; omega)]; rfl)
      clear HR
      go_wp2_with fail
      go_ret2
      rw [HR4.out]
      exact ⟨rfl, HB.out⟩

end Go.Proofs.YtliekndkjjaldaaGreat

/- The document's file system with a root alone: New, named, look, walk, end. -/
namespace Go.Proofs.YtliekndkjjaldaaGreat
open Go.RowKit
set_option linter.unusedVariables false

/-- A root alone. -/
structure R6 (w : World) (p b : Nat) : Prop where
  at0 : ∃ u d, w.heap[p]? = some (.cells #[.slice (some ⟨b, 0, none⟩) 17 17, u, d] 63 (0, 0))
  row : ∃ C : List Value, w.heap[b]? = some (.cells C.toArray 66 (0, 0)) ∧ C.length = 102 ∧ C[6]? = some (.int .i64 2) ∧ C[11]? = some (.slice none 0 0) ∧ C[12]? = some (.int .i64 0)
  ne : p ≠ b

theorem R6.c0 {w : World} {p b : Nat} (h : R6 w p b) : w.cell? ⟨p, 0, none⟩ = some (.slice (some ⟨b, 0, none⟩) 17 17) := by
  obtain ⟨u, d, h⟩ := h.at0
  rw [cell_of_row w _ 0 _ _ _ h]; rfl
theorem R6.cb {w : World} {p b : Nat} (h : R6 w p b) : w.cell? ⟨b, 6, none⟩ = some (.int .i64 2) ∧ w.cell? ⟨b, 11, none⟩ = some (.slice none 0 0) ∧ w.cell? ⟨b, 12, none⟩ = some (.int .i64 0) := by
  obtain ⟨C, h1, h2, h3, h4, h5⟩ := h.row
  exact ⟨cell_list h1 h3, cell_list h1 h4, cell_list h1 h5⟩
theorem R6.lt {w : World} {p b : Nat} (h : R6 w p b) : p < w.heap.size ∧ b < w.heap.size := by
  obtain ⟨u, d, h1⟩ := h.at0
  obtain ⟨C, h2, _⟩ := h.row
  exact ⟨(Array.getElem?_eq_some_iff.1 h1).1, (Array.getElem?_eq_some_iff.1 h2).1⟩
theorem R6.below {w w' : World} {p b : Nat} (h : R6 w p b) (u : Below w.heap.size w w') : R6 w' p b := by
  obtain ⟨l1, l2⟩ := h.lt
  obtain ⟨x, d, h1⟩ := h.at0
  obtain ⟨C, h2, h3⟩ := h.row
  exact ⟨⟨x, d, (u.block p l1).trans h1⟩, ⟨C, (u.block b l2).trans h2, h3⟩, h.ne⟩

/-- The error of a name at the root. -/
def nmE (s : ByteArray) : Int := if s.size = 0 then 22 else if 6 < s.size then 36 else 0

set_option maxHeartbeats 1000000 in
theorem named_any (p b : Nat) (s : ByteArray) (w : World) (H : R6 w p b) :
    Calls Tryz.prog 103 #[.pointer (some ⟨p, 0, none⟩), .int .i64 1, .string s] w fun e w' => e = .returned (.int .i64 (nmE s)) ∧ w' = w := by
  have c0 := H.c0
  obtain ⟨c1, _, _⟩ := H.cb
  clear H
  by_cases h : s.size = 0
  · have e : nmE s = 22 := by simp [nmE, h]
    rw [e]
    have h3 : (s.toList == []) = true := by
      rw [Lib.toList_data]
      have := bl_len s
      rw [h] at this
      have := List.eq_nil_of_length_eq_zero this
      simpa [bl] using this
    clear h e
    go_enter Tryz.func103, Tryz.ntmps103
    go_wp2_with fail
    go_ret
    exact ⟨rfl, rfl⟩
  · have h3 : (s.toList == []) = false := by
      rw [Lib.toList_data]
      have := bl_len s
      cases e : s.data.toList with
      | nil => unfold bl at this; rw [e] at this; simp at this; omega
      | cons x y => rfl
    by_cases h6 : 6 < s.size
    · have e : nmE s = 36 := by simp [nmE, h, h6]
      rw [e]
      have h4 : (6 : Int) < (s.size : Int) := by omega
      clear h e h6
      go_enter Tryz.func103, Tryz.ntmps103
      go_wp2_with fail
      go_ret
      exact ⟨rfl, rfl⟩
    · have e : nmE s = 0 := by simp [nmE, h, h6]
      rw [e]
      have h4 : ¬ (6 : Int) < (s.size : Int) := by omega
      clear h e h6
      go_enter Tryz.func103, Tryz.ntmps103
      go_wp2_with fail
      go_ret
      exact ⟨rfl, rfl⟩

set_option maxHeartbeats 1000000 in
theorem look_none (p b : Nat) (s : ByteArray) (w : World) (H : R6 w p b) :
    Calls Tryz.prog 61 #[.pointer (some ⟨p, 0, none⟩), .int .i64 1, .string s] w fun e w' => e = .returned (.int .i64 0) ∧ w' = w := by
  have c0 := H.c0
  obtain ⟨_, c1, _⟩ := H.cb
  clear H
  go_enter Tryz.func61, Tryz.ntmps61
  go_wp2_with fail
  go_loopw [18] (fun v18 wr => v18 = .int .i64 0 ∧ wr = w) (fun _ _ => 0)
  case atStart => exact ⟨rfl, rfl⟩
  case round =>
    obtain ⟨rfl, rfl⟩ := hrel
    go_wp2_with fail
    go_ret
    exact ⟨rfl, rfl⟩

set_option maxHeartbeats 1000000 in
theorem walk_root (p b : Nat) (a : Option Addr) (c : Nat) (w : World) :
    Calls Tryz.prog 56 #[.pointer (some ⟨p, 0, none⟩), .slice a 0 c] w fun e w' => e = .returned (.tuple #[.int .i64 1, .int .i64 0]) ∧ w' = w := by
  go_enter Tryz.func56, Tryz.ntmps56
  go_wp2_with fail
  go_loopw [6, 12] (fun v6 v12 wr => v6 = .int .i64 1 ∧ v12 = .int .i64 0 ∧ wr = w) (fun _ _ _ => 0)
  case atStart => exact ⟨rfl, rfl, rfl⟩
  case round =>
    obtain ⟨rfl, rfl, rfl⟩ := hrel
    go_wp2_with fail
    go_ret2
    exact ⟨rfl, rfl⟩

set_option maxHeartbeats 1000000 in
theorem walk_some (p b : Nat) (g o n c : Nat) (s : ByteArray) (w : World) (H : R6 w p b) (hn : 0 < n) (hs : w.cell? ⟨g, o, none⟩ = some (.string s)) :
    Calls Tryz.prog 56 #[.pointer (some ⟨p, 0, none⟩), .slice (some ⟨g, o, none⟩) n c] w fun e w' => e = .returned (.tuple #[.int .i64 0, .int .i64 (if nmE s = 0 then 2 else nmE s)]) ∧ w' = w := by
  have k1 := hid (named_any p b s w H)
  have k2 := hid (look_none p b s w H)
  have hn' : (0 : Int) < (n : Int) := by omega
  by_cases h : nmE s = 0
  · rw [if_pos h]
    rw [h] at k1
    clear H h
    go_enter Tryz.func56, Tryz.ntmps56
    go_wp2_with fail
    go_loopw [6, 12] (fun v6 v12 wr => v6 = .int .i64 1 ∧ v12 = .int .i64 0 ∧ wr = w) (fun _ _ _ => 0)
    case atStart => exact ⟨rfl, rfl, rfl⟩
    case round =>
      obtain ⟨rfl, rfl, rfl⟩ := hrel
      go_wp2_with fail
      refine k1.out.mono ?_
      rintro e w1 ⟨rfl, rfl⟩
      go_wp2_with fail
      refine k2.out.mono ?_
      rintro e w1 ⟨rfl, rfl⟩
      go_wp2_with fail
      go_ret2
      exact ⟨rfl, rfl⟩
  · rw [if_neg h]
    obtain ⟨E, gE⟩ : ∃ E, E = nmE s := ⟨_, rfl⟩
    rw [← gE] at k1 h ⊢
    clear H gE
    go_enter Tryz.func56, Tryz.ntmps56
    go_wp2_with fail
    go_loopw [6, 12] (fun v6 v12 wr => v6 = .int .i64 1 ∧ v12 = .int .i64 0 ∧ wr = w) (fun _ _ _ => 0)
    case atStart => exact ⟨rfl, rfl, rfl⟩
    case round =>
      obtain ⟨rfl, rfl, rfl⟩ := hrel
      go_wp2_with fail
      refine k1.out.mono ?_
      rintro e w1 ⟨rfl, rfl⟩
      go_wp2_with fail
      go_ret2
      exact ⟨rfl, rfl⟩

end Go.Proofs.YtliekndkjjaldaaGreat

/- What the document's walk to a path's end comes to, at a root alone. -/
namespace Go.Proofs.YtliekndkjjaldaaGreat
open Go.RowKit
set_option linter.unusedVariables false

/-- The error of a name; of a path. -/
def nmL (s : List UInt8) : Int := if s.length = 0 then 22 else if 6 < s.length then 36 else 0
theorem nmE_bl (s : ByteArray) : nmE s = nmL (bl s) := by unfold nmE nmL; rw [bl_len]
def splE : List (List UInt8) → Int
  | [] => 0
  | [s] => nmL s
  | s :: _ :: _ => if nmL s = 0 then 2 else nmL s
def endE (l : List UInt8) : Int := if l.head? = some 47 ∧ l ≠ [47] then splE (spl (l.drop 1)) else 22

theorem own_cells {w : World} {B n c : Nat} {a : Option Addr} {xs : List Value} (h : w.ownsRow B 9 1 (.slice a n c) n xs) (hn : 0 < n) :
    ∃ g, a = some ⟨g, 0, none⟩ ∧ g < w.heap.size ∧ n ≤ c ∧ c ≤ 9223372036854775807 ∧ ∀ j v, j < n → xs[j]? = some v → w.cell? ⟨g, j, none⟩ = some v := by
  obtain ⟨h1, h2⟩ := h
  rcases h2 with ⟨_, h2⟩ | ⟨g, c', cur, e, hb, hg, hnc, hcm, hcs, htake⟩
  · omega
  · injection e with r1 r2 r3
    subst r1
    subst r3
    refine ⟨g, rfl, (Array.getElem?_eq_some_iff.1 hg).1, hnc, by simpa [maxLen] using hcm, fun j v hj hv => ?_⟩
    have hh : w.ownsRow B 9 1 (.slice (some ⟨g, 0, none⟩) n c) n xs := ⟨h1, .inr ⟨g, c, cur, rfl, hb, hg, hnc, hcm, hcs, htake⟩⟩
    rw [hh.cellAt j (by omega)]
    exact hv

set_option maxHeartbeats 2000000 in
theorem end_short (p b : Nat) (t : ByteArray) (w : World) (h : ¬ ((bl t).head? = some 47 ∧ bl t ≠ [47])) :
    Calls Tryz.prog 60 #[.pointer (some ⟨p, 0, none⟩), .string t] w fun e w' => e = .returned (.tuple #[.int .i64 0, .string ⟨#[]⟩, .int .i64 22]) ∧ w' = w := by
  by_cases hr : bl t = [47]
  · have k1 := hid (split_root t w hr)
    clear h hr
    go_enter Tryz.func60, Tryz.ntmps60
    go_wp2_with fail
    refine k1.out.mono ?_
    rintro e w1 ⟨rfl, rfl⟩
    clear k1
    go_wp2_with fail
    go_ret3
    exact ⟨rfl, rfl⟩
  · have k1 : Hid (Calls Tryz.prog 55 #[.string t] w fun e w' => e = .returned (.tuple #[.slice none 0 0, .int .i64 22]) ∧ w' = w) := by
      cases e : bl t with
      | nil => exact hid (split_none t w e)
      | cons c r =>
        refine hid (split_bad t w c r e ?_)
        intro hc
        subst hc
        exact h ⟨by rw [e]; rfl, hr⟩
    clear h hr
    go_enter Tryz.func60, Tryz.ntmps60
    go_wp2_with fail
    refine k1.out.mono ?_
    rintro e w1 ⟨rfl, rfl⟩
    clear k1
    go_wp2_with fail
    go_ret3
    exact ⟨rfl, rfl⟩

set_option maxHeartbeats 2000000 in
set_option maxRecDepth 20000 in
theorem end_any (p b : Nat) (t : ByteArray) (w : World) (H : R6 w p b) (hs : t.size ≤ 1048576) :
    Calls Tryz.prog 60 #[.pointer (some ⟨p, 0, none⟩), .string t] w fun e w' => Below w.heap.size w w' ∧ ((endE (bl t) ≠ 0 ∧ e = .returned (.tuple #[.int .i64 0, .string ⟨#[]⟩, .int .i64 (endE (bl t))])) ∨ (endE (bl t) = 0 ∧ ∃ s, e = .returned (.tuple #[.int .i64 1, .string s, .int .i64 0]))) := by
  by_cases hg : ¬ ((bl t).head? = some 47 ∧ bl t ≠ [47])
  · refine (end_short p b t w hg).mono ?_
    rintro e w' ⟨rfl, rfl⟩
    have e : endE (bl t) = 22 := by unfold endE; rw [if_neg hg]
    exact ⟨Below.refl _ _, .inl ⟨by omega, by rw [e]⟩⟩
  · have hg := Decidable.not_not.1 hg
    have e0 : endE (bl t) = splE (spl ((bl t).drop 1)) := by unfold endE; rw [if_pos hg]
    obtain ⟨r, hr, hr0⟩ : ∃ r, bl t = 47 :: r ∧ r ≠ [] := by
      cases e : bl t with
      | nil => rw [e] at hg; simp at hg
      | cons c r =>
        rw [e] at hg
        obtain ⟨h1, h2⟩ := hg
        simp at h1
        subst h1
        exact ⟨r, rfl, fun q => h2 (by rw [q])⟩
    rw [hr] at e0 ⊢
    rw [show (47 :: r).drop 1 = r from rfl] at e0
    obtain ⟨E, gE⟩ : ∃ E, E = endE (47 :: r) := ⟨_, rfl⟩
    rw [← gE] at e0 ⊢
    have k1 := hid (split_ok t w r hr hr0 hs)
    have HE := hid e0
    have HR := hid H
    clear gE e0 hg hr hr0 H
    go_enter Tryz.func60, Tryz.ntmps60
    go_wp2_with fail
    refine k1.out.mono ?_
    rintro e w1 ⟨a, n, c, xs, rfl, hxl, hn, hxs, hO, hB⟩
    clear k1
    have hn1 : 0 < n := by
      rcases Nat.eq_zero_or_pos n with q | q
      · subst q
        rw [List.eq_nil_of_length_eq_zero hxl] at hxs
        exact absurd hxs.symm (spl_ne r)
      · exact q
    obtain ⟨g, rfl, hgl, hnc, hcm, hcell⟩ := own_cells hO hn1
    have HR1 := hid (HR.out.below hB)
    have HB := hid hB
    cases xs with
    | nil => simp at hxl; omega
    | cons x ys =>
      have hx0 := hcell 0 (.string x) hn1 (by simp)
      cases ys with
      | nil =>
        obtain rfl : n = 1 := by simp at hxl; omega
        have k2 := hid (walk_root p b (some ⟨g, 0, none⟩) c w1)
        have k3 := hid (named_any p b x w1 HR1.out)
        have hE : E = nmE x := by
          rw [HE.out, ← hxs, nmE_bl]
          rfl
        rw [← hE] at k3
        have hc' : (0 : Int) ≤ (c : Int) := by omega
        clear hxs hO hB hcell hxl HE HR HR1 hE
        by_cases h0 : E = 0
        · subst h0
          go_wp2_with fail
          refine k2.out.mono ?_
          rintro e w2 ⟨rfl, rfl⟩
          go_wp2_with fail
          refine k3.out.mono ?_
          rintro e w2 ⟨rfl, rfl⟩
          go_wp2_with fail
          go_ret3
          exact ⟨HB.out, x, rfl⟩
        · go_wp2_with fail
          refine k2.out.mono ?_
          rintro e w2 ⟨rfl, rfl⟩
          go_wp2_with fail
          refine k3.out.mono ?_
          rintro e w2 ⟨rfl, rfl⟩
          go_wp2_with fail
          go_ret3
          exact ⟨HB.out, .inl ⟨h0, rfl⟩⟩
      | cons y zs =>
        have hn2 : 2 ≤ n := by simp at hxl; omega
        have k2 := hid (walk_some p b g 0 (n - 1) c x w1 HR1.out (by omega) hx0)
        have hE : E = if nmE x = 0 then 2 else nmE x := by
          rw [HE.out, ← hxs, nmE_bl]
          rfl
        have h0 : ¬ E = 0 := by
          rw [hE]
          split
          · omega
          · assumption
        rw [← hE] at k2
        obtain ⟨m, rfl⟩ : ∃ m, n = m + 1 := ⟨n - 1, by omega⟩
        rw [show m + 1 - 1 = m from rfl] at k2
        have i1 : ¬ ((m + 1 : Nat) : Int) = 0 := by omega
        have i2 : IntKind.i64.wrap (((m + 1 : Nat) : Int) - 1) = (m : Int) := by rw [IntKind.wrap_i64]; omega
        have i3 : (0 : Int) ≤ (m : Int) := by omega
        have i4 : (m : Int) ≤ (c : Int) := by omega
        clear hxs hO hB hcell hxl HE HR HR1 hE
        go_wp2_with fail
        refine k2.out.mono ?_
        rintro e w2 ⟨rfl, rfl⟩
        go_wp2_with fail
        go_ret3
        exact ⟨HB.out, .inl ⟨h0, rfl⟩⟩

end Go.Proofs.YtliekndkjjaldaaGreat
