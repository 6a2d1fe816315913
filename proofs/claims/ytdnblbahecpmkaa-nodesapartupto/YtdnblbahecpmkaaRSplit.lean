/- What the document's split does. -/
import Derived.Test.YtdnblbahecpmkaaNTo3
namespace Go.Proofs.Ytdnblbahecpmkaa
open Go.RowKit
set_option linter.unusedVariables false

theorem upto_at : ∀ (l : List UInt8) (k : Nat) (c : UInt8), k ≤ upto l → l[k]? = some c → (c = 47 → upto l = k) ∧ (c ≠ 47 → k + 1 ≤ upto l)
  | [], k, c, _, h => by simp at h
  | d :: r, 0, c, _, h => by
    simp at h
    subst h
    unfold upto
    exact ⟨fun e => by rw [if_pos e], fun e => by rw [if_neg e]; omega⟩
  | d :: r, k + 1, c, hk, h => by
    by_cases hd : d = 47
    · simp [upto, hd] at hk
    · have e : upto (d :: r) = upto r + 1 := by simp [upto, hd]
      rw [e] at hk ⊢
      have := upto_at r k c (by omega) (by simpa using h)
      exact ⟨fun e => by rw [this.1 e], fun e => by have := this.2 e; omega⟩
theorem bl_ext (t : ByteArray) (f i : Nat) : bl (t.extract f i) = ((bl t).drop f).take (i - f) := by
  simp [bl, ByteArray.data_extract, List.take_drop]

theorem infoS : (Try.prog.info? 9).map (fun i => (i.zero, i.size, i.bytes)) = some (some (.string ⟨#[]⟩), 1, 16) := by kernel_rfl

set_option maxHeartbeats 1000000 in
theorem split_none (t : ByteArray) (w : World) (h : bl t = []) :
    Calls Try.prog 56 #[.string t] w fun e w' => e = .returned (.tuple #[.slice none 0 0, .int .i64 22]) ∧ w' = w := by
  have h3 : (t.toList == []) = true := by
    rw [Lib.toList_data]
    simpa [bl] using h
  clear h
  go_enter Try.func56, Try.ntmps56
  go_wp2_with fail
  go_ret2
  exact ⟨rfl, rfl⟩

theorem byte_at {t : ByteArray} {i : Nat} {c : UInt8} (h : (bl t)[i]? = some c) : ∃ q : i < t.size, (t[i]'q) = c := by
  have q := (List.getElem?_eq_some_iff.1 h).1
  rw [bl_len] at q
  refine ⟨q, ?_⟩
  have := (List.getElem?_eq_some_iff.1 h).2
  exact this
theorem ne47 {c : UInt8} (h : c ≠ 47) : (((c.toNat : Nat) : Int) != 47) = true ∧ (((c.toNat : Nat) : Int) == 47) = false := by
  have : c.toNat ≠ 47 := fun e => h (UInt8.toNat_inj.1 e)
  constructor <;> simp <;> omega

set_option maxHeartbeats 1000000 in
theorem split_bad (t : ByteArray) (w : World) (c : UInt8) (r : List UInt8) (h : bl t = c :: r) (hc : c ≠ 47) :
    Calls Try.prog 56 #[.string t] w fun e w' => e = .returned (.tuple #[.slice none 0 0, .int .i64 22]) ∧ w' = w := by
  have h3 : (t.toList == []) = false := by
    rw [Lib.toList_data]
    have : t.data.toList = c :: r := h
    rw [this]; rfl
  obtain ⟨h4, h5⟩ := byte_at (t := t) (i := 0) (c := c) (by rw [h]; rfl)
  have h6 : ((((t[0]'h4).toNat : Nat) : Int) != 47) = true := by rw [h5]; exact (ne47 hc).1
  clear h h5
  go_enter Try.func56, Try.ntmps56
  go_wp2_with fail
  go_ret2
  exact ⟨rfl, rfl⟩

set_option maxHeartbeats 1000000 in
theorem split_root (t : ByteArray) (w : World) (h : bl t = [47]) :
    Calls Try.prog 56 #[.string t] w fun e w' => e = .returned (.tuple #[.slice none 0 0, .int .i64 0]) ∧ w' = w := by
  have h2 : t.data.toList = [47] := h
  have h3 : (t.toList == []) = false := by rw [Lib.toList_data, h2]; rfl
  have h3' : (t.toList == [47]) = true := by rw [Lib.toList_data, h2]; rfl
  obtain ⟨h4, h5⟩ := byte_at (t := t) (i := 0) (c := 47) (by rw [h]; rfl)
  have h6 : ((((t[0]'h4).toNat : Nat) : Int) != 47) = false := by rw [h5]; rfl
  clear h h5 h2
  go_enter Try.func56, Try.ntmps56
  go_wp2_with fail
  go_ret2
  exact ⟨rfl, rfl⟩

/-- How far split is: what is told, where the name begins. -/
def Spt (w wr : World) (t : ByteArray) (v : Value) (f i : Nat) : Prop :=
  ∃ (a : Option Addr) (n c : Nat) (xs : List ByteArray), v = .slice a n c ∧ xs.length = n ∧ n + 1 ≤ f ∧ f ≤ i ∧ spl ((bl t).drop 1) = xs.map bl ++ spl ((bl t).drop f) ∧ i - f ≤ upto ((bl t).drop f) ∧ wr.ownsRow w.heap.size 9 1 v n (xs.map Value.string) ∧ Below w.heap.size w wr

theorem cell_one (w : World) (v : Value) (ty : TypeId) : ∀ j u, ([v] : List Value)[j]? = some u → (w.alloc (.cells #[v] ty)).cell? ((⟨w.heap.size, 0, none⟩ : Addr).add j) = some u := by
  intro j u h
  cases j with
  | zero => simp at h; subst h; simp [Addr.add, go_sem]
  | succ j => simp at h

theorem index_at (t : ByteArray) (i : Nat) (h : i < t.size) (w : World) : (Instr.index 9 (.string t) (.int .i64 i)).run Try.prog w = .ok (.int .u8 (((t[i]'h).toNat : Nat) : Int)) w := by
  rw [run_index_string w 9 t .i64 i Try.underlying9, dif_pos ⟨by omega, by omega⟩]
  rfl

set_option maxHeartbeats 4000000 in
set_option maxRecDepth 20000 in
theorem split_ok (t : ByteArray) (w : World) (r : List UInt8) (h : bl t = 47 :: r) (hr : r ≠ []) (hs : t.size ≤ 1048576) :
    Calls Try.prog 56 #[.string t] w fun e w' => ∃ (a : Option Addr) (n c : Nat) (xs : List ByteArray), e = .returned (.tuple #[.slice a n c, .int .i64 0]) ∧ xs.length = n ∧ n ≤ 1048576 ∧ xs.map bl = spl r ∧ w'.ownsRow w.heap.size 9 1 (.slice a n c) n (xs.map Value.string) ∧ Below w.heap.size w w' := by
  obtain ⟨i0, hi0, hz0, hz1, hz2⟩ := info_parts infoS
  have h2 : t.data.toList = 47 :: r := h
  have h3 : (t.toList == []) = false := by rw [Lib.toList_data, h2]; rfl
  have h3' : (t.toList == [47]) = false := by
    rw [Lib.toList_data, h2]
    cases r with
    | nil => exact absurd rfl hr
    | cons x y => rfl
  obtain ⟨h4, h5⟩ := byte_at (t := t) (i := 0) (c := 47) (by rw [h]; rfl)
  have h6 : ((((t[0]'h4).toNat : Nat) : Int) != 47) = false := by rw [h5]; rfl
  have hlen : t.size = r.length + 1 := by rw [← bl_len, h]; rfl
  have hr1 : 1 ≤ r.length := by cases r with
    | nil => exact absurd rfl hr
    | cons x y => simp
  have HT : Hid (bl t = 47 :: r) := hid h
  have HLN := hid hlen
  have ht1 : 1 ≤ t.size := by omega
  have HI : Hid (Spt w w t (.slice none 0 0) 1 1) := hid ⟨none, 0, 0, [], rfl, rfl, by omega, by omega, by simp, by omega, World.ownsRow_nil _ _ _ _, Below.refl _ _⟩
  clear h h5 h2 hr hlen hr1
  go_enter Try.func56, Try.ntmps56
  go_wp2_with fail
  go_loopw [4, 5, 6] (fun v4 v5 v6 wr => ∃ f i : Nat, f ≤ t.size ∧ i ≤ t.size ∧ v5 = .int .i64 (f : Int) ∧ v6 = .int .i64 (i : Int) ∧ Hid (Spt w wr t v4 f i)) (fun _ _ v6 _ => t.size - (intOf v6).toNat)
  case atStart => exact ⟨1, 1, by omega, by omega, rfl, rfl, HI⟩
  case round =>
    clear HI
    obtain ⟨f, i, hf, hi, rfl, rfl, HQ⟩ := hrel
    obtain ⟨a, n, c, xs, rfl, hxl, hnf, hfi, hsp, hup, hO, hB⟩ := HQ.out
    have HSP := hid hsp
    have HUP := hid hup
    have HO := hid hO
    have HB := hid hB
    have hBs := hB.size
    have hxl' : Hid (xs.length = n) := hid hxl
    clear hsp hup hO hB HQ hxl
    have hfi' : (f : Int) ≤ (i : Int) := by omega
    have hi' : (i : Int) ≤ (t.size : Int) := by omega
    have hf' : (f : Int) ≤ (t.size : Int) := by omega
    have hf0 : (0 : Int) ≤ (f : Int) := by omega
    by_cases ei : i = t.size
    · have q1 : ¬ (i : Int) < (t.size : Int) := by omega
      have HE : Hid (i = t.size) := hid ei
      clear ei
      go_wp2_with (at_builtin; go_must (refine wpList_append_own _ rfl (.tmp 35) (.tmp 39) 111 rfl w.heap.size 9 i0 _ 1 16 Try.underlying111 hi0 hz0 hz1 hz2 rfl (by decide) _ n (xs.map Value.string) rfl (HO.out.alloc _) ⟨_, 0, none⟩ 1 1 [.string (t.extract f t.size)] rfl rfl (cell_one _ _ _) (by simp [Value.oneCell']) (by unfold maxLen; omega) (by omega) (by simp; omega) ?_))
      intro v' w6 hO hG hN
      have hbel : Below w.heap.size w w6 := (HB.out.alloc hBs (.cells #[.string (t.extract f t.size)] 9)).grown hG (by simp; omega) (fun x hx => (HO.out.lt x hx).1)
      obtain ⟨va, vc, rfl⟩ : ∃ va vc, v' = .slice va (n + 1) vc := by
        rcases hO.2 with ⟨h1, h2⟩ | ⟨g, c, cur, rfl, _⟩
        · omega
        · exact ⟨_, c, rfl⟩
      have HF : Hid ((xs ++ [t.extract f t.size]).map bl = spl r ∧ w6.ownsRow w.heap.size 9 1 (.slice va (n + 1) vc) (n + 1) ((xs ++ [t.extract f t.size]).map Value.string) ∧ Below w.heap.size w w6 ∧ (xs ++ [t.extract f t.size]).length = n + 1) := by
        refine hid ⟨?_, by simpa using hO, hbel, by simp [hxl'.out]⟩
        have e1 := HSP.out
        rw [HT.out] at e1
        rw [show (47 :: r).drop 1 = r from rfl, ← HT.out] at e1
        have e2 : spl ((bl t).drop f) = [(bl t).drop f] := by
          apply spl_no
          have h1 := HUP.out
          have h2 := upto_le ((bl t).drop f)
          have h3 : ((bl t).drop f).length = t.size - f := by rw [List.length_drop, bl_len]
          have h4 := HE.out
          omega
        rw [e1, e2, List.map_append]
        simp [bl_drop]
      have hn : n + 1 ≤ 1048576 := by omega
      clear hO hG hN hbel
      go_wp2_with fail
      go_ret2
      exact ⟨va, n + 1, vc, _, rfl, HF.out.2.2.2, hn, HF.out.1, HF.out.2.1, HF.out.2.2.1⟩
    · have q1 : (i : Int) < (t.size : Int) := by omega
      have hi2 : i < t.size := by omega
      have hx := index_at t i hi2
      obtain ⟨b, gb⟩ : ∃ b, b = t[i]'hi2 := ⟨_, rfl⟩
      rw [← gb] at hx
      have hbt : ((bl t).drop f)[i - f]? = some b := by
        rw [List.getElem?_drop, show f + (i - f) = i by omega, gb]
        exact List.getElem?_eq_some_iff.2 ⟨by rw [bl_len]; exact hi2, rfl⟩
      obtain ⟨u1, u2⟩ := upto_at _ _ _ HUP.out hbt
      have HBT := hid hbt
      clear gb hbt ei
      by_cases hb : b = 47
      · have HU1 := hid (u1 hb)
        have hb1 : (((b.toNat : Nat) : Int) == 47) = true := by rw [hb]; rfl
        clear u1 u2 hb
        go_wp2_with (at_builtin; go_must (refine wpList_append_own _ rfl (.tmp 26) (.tmp 31) 111 rfl w.heap.size 9 i0 _ 1 16 Try.underlying111 hi0 hz0 hz1 hz2 rfl (by decide) _ n (xs.map Value.string) rfl (HO.out.alloc _) ⟨_, 0, none⟩ 1 1 [.string (t.extract f i)] rfl rfl (cell_one _ _ _) (by simp [Value.oneCell']) (by unfold maxLen; omega) (by omega) (by simp; omega) ?_))
        intro v' w6 hO hG hN
        have hbel : Below w.heap.size w w6 := (HB.out.alloc hBs (.cells #[.string (t.extract f i)] 9)).grown hG (by simp; omega) (fun x hx => (HO.out.lt x hx).1)
        obtain ⟨va, vc, rfl⟩ : ∃ va vc, v' = .slice va (n + 1) vc := by
          rcases hO.2 with ⟨h1, h2⟩ | ⟨g, c, cur, rfl, _⟩
          · omega
          · exact ⟨_, c, rfl⟩
        have HQ2 : Hid (Spt w w6 t (.slice va (n + 1) vc) (i + 1) (i + 1)) := by
          refine hid ⟨va, n + 1, vc, xs ++ [t.extract f i], rfl, by simp [hxl'.out], by omega, by omega, ?_, by omega, by simpa using hO, hbel⟩
          have h1 := HU1.out
          have h3 : ((bl t).drop f).length = t.size - f := by rw [List.length_drop, bl_len]
          rw [HSP.out, spl_yes ((bl t).drop f) (by omega), h1, List.map_append, List.append_assoc, List.drop_drop, show f + (i - f + 1) = i + 1 by omega]
          simp [bl_ext]
        clear hO hG hN hbel HSP HUP HO HB HU1 hxl' HBT hx hb1
        go_wp2_with fail
        go_roundw
        case rel => exact ⟨i + 1, i + 1, by omega, by omega, by go_num, by go_num, HQ2⟩
        case measure => simp [intOf]; omega
      · have HU2 := hid (u2 hb)
        have hb1 := (ne47 hb).2
        clear u1 u2 hb
        have HQ2 : Hid (Spt w wr t (.slice a n c) f (i + 1)) := hid ⟨a, n, c, xs, rfl, hxl'.out, hnf, by omega, HSP.out, by have := HU2.out; omega, HO.out, HB.out⟩
        go_wp2_with fail
        go_roundw
        case rel => exact ⟨f, i + 1, by omega, by omega, rfl, by go_num, HQ2⟩
        case measure => simp [intOf]; omega

end Go.Proofs.Ytdnblbahecpmkaa
