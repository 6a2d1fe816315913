/- What the document's Signed and Text do: the same bytes as wire's, in a new row; nothing old turns. -/
import Derived.Test.YtmnhehicgheheaaDoorRPut
namespace Go.Proofs.YtmnhehicgheheaaDoor
open Go.RowKit Num

set_option maxHeartbeats 400000 in
theorem rsigned_any (a0 : Option Addr) (len cap : Nat) (n : Int) (zs : List Int) (w : World) (hs : Src w a0 len zs) (hnil : a0 = none → cap = 0) (hr : len ≤ 140737488351232) :
    Calls Tryd.prog 9 #[.slice a0 len cap, .int .i64 n] w fun e w' => ∃ g c, e = .returned (.slice (some ⟨g, 0, none⟩) (len + (enc (fld (clip n)).toNat).length) c) ∧
      w'.ownsRow w.heap.size 5 1 (.slice (some ⟨g, 0, none⟩) (len + (enc (fld (clip n)).toNat).length) c) (len + (enc (fld (clip n)).toNat).length) ((zs ++ enc (fld (clip n)).toNat).map (Value.int .u8)) ∧ Below w.heap.size w w' := by
  have h1 : -4611686018427387904 ≤ clip n ∧ clip n ≤ 4611686018427387903 := by unfold clip; omega
  have h2 : 0 ≤ fld (clip n) ∧ fld (clip n) ≤ 9223372036854775807 := by unfold fld; split <;> omega
  have hfn : ∀ c, c < 0 → fld c = -2 * c - 1 := fun c h => by unfold fld; rw [if_pos h]
  have hfp : ∀ c, 0 ≤ c → fld c = 2 * c := fun c h => by unfold fld; rw [if_neg (by omega)]
  obtain ⟨c, gc⟩ : ∃ c, c = clip n := ⟨_, rfl⟩
  rw [← gc] at h1 h2 ⊢
  have hcase : (n < -4611686018427387904 ∧ c = -4611686018427387904) ∨ (-4611686018427387904 ≤ n ∧ n ≤ 4611686018427387903 ∧ c = n) ∨ (4611686018427387903 < n ∧ c = 4611686018427387903) := by
    rw [gc]; unfold clip; omega
  have hput := hid (fun (v : Int) (wx : World) (hx : Src wx a0 len zs) (hv : v = fld c) => rput_any a0 len cap v (fld c).toNat zs wx hx hnil (by omega) hr (by omega))
  have HS := hid hs
  have HF := hid (And.intro hfn hfp)
  clear hs gc hfn hfp h2
  rcases hcase with ⟨hc, rfl⟩ | ⟨hc, hc2, rfl⟩ | ⟨hc, rfl⟩
  · go_enter Tryd.func9, Tryd.ntmps9
    go_wp2_with fail
    refine (hput.out _ _ HS.out (by rw [HF.out.1 _ (by omega)]; omega)).mono ?_
    rintro e w1 ⟨g, c, rfl, hown, hb⟩
    have HO := hid hown
    clear hown
    go_wp2_with fail
    go_ret
    exact ⟨g, c, rfl, HO.out, hb⟩
  · rcases Int.lt_or_le c 0 with hneg | hpos
    · go_enter Tryd.func9, Tryd.ntmps9
      go_wp2_with fail
      refine (hput.out _ _ HS.out (by rw [HF.out.1 _ (by omega)]; omega)).mono ?_
      rintro e w1 ⟨g, c, rfl, hown, hb⟩
      have HO := hid hown
      clear hown
      go_wp2_with fail
      go_ret
      exact ⟨g, c, rfl, HO.out, hb⟩
    · go_enter Tryd.func9, Tryd.ntmps9
      go_wp2_with fail
      refine (hput.out _ _ HS.out (by rw [HF.out.2 _ (by omega)])).mono ?_
      rintro e w1 ⟨g, c, rfl, hown, hb⟩
      have HO := hid hown
      clear hown
      go_wp2_with fail
      go_ret
      exact ⟨g, c, rfl, HO.out, hb⟩
  · go_enter Tryd.func9, Tryd.ntmps9
    go_wp2_with fail
    refine (hput.out _ _ HS.out (by rw [HF.out.2 _ (by omega)]; omega)).mono ?_
    rintro e w1 ⟨g, c, rfl, hown, hb⟩
    have HO := hid hown
    clear hown
    go_wp2_with fail
    go_ret
    exact ⟨g, c, rfl, HO.out, hb⟩

set_option maxHeartbeats 400000 in
theorem rtext_any (a0 : Option Addr) (len cap : Nat) (S : ByteArray) (zs : List Int) (w : World) (hs : Src w a0 len zs) (hnil : a0 = none → cap = 0) (hr : len + 9 + S.size ≤ 140737488351232) :
    Calls Tryd.prog 11 #[.slice a0 len cap, .string S] w fun e w' => ∃ g c, e = .returned (.slice (some ⟨g, 0, none⟩) (len + (enc S.size).length + S.size) c) ∧
      w'.ownsRow w.heap.size 5 1 (.slice (some ⟨g, 0, none⟩) (len + (enc S.size).length + S.size) c) (len + (enc S.size).length + S.size) ((zs ++ enc S.size ++ str S).map (Value.int .u8)) ∧ Below w.heap.size w w' := by
  obtain ⟨i0, hi, hz0, hz1, hz2⟩ := info_parts Tryd.info5
  have hl := length_enc S.size
  have hc8 := cnt_8 S.size (by omega)
  have hput := hid (rput_any a0 len cap (S.size : Int) S.size zs w hs hnil (.inr rfl) (by omega) (by omega))
  obtain ⟨L, gL⟩ : ∃ L, L = (enc S.size).length := ⟨_, rfl⟩
  have hL9 : L ≤ 9 := by omega
  rw [← gL] at hput ⊢
  clear hs gL hl hc8
  go_enter Tryd.func11, Tryd.ntmps11
  go_wp2_with fail
  refine hput.out.mono ?_
  rintro e w1 ⟨g, c, rfl, hown, hb⟩
  have HO := hid hown
  have hlt := hown.lt g rfl
  clear hown
  go_wp2_with (at_builtin; go_must (refine wpList_append_own_str _ rfl (.tmp 8) (.tmp 9) 22 9 rfl w.heap.size 5 i0 (.int .u8 0) Tryd.underlying22 Tryd.underlying9 hi hz0 hz1 hz2 rfl g (len + L) c _ rfl HO.out S rfl (by omega) (by omega) ?_))
  intro g' c' w3 hown3 hgrow3
  rw [str_cells] at hown3
  have hb3 := hb.grown hgrow3 hb.size (by intro q hq; simp at hq; omega)
  have HO3 := hid hown3
  clear hown3 hgrow3
  go_wp2_with fail
  go_ret
  refine ⟨g', c', rfl, ?_, hb3⟩
  have := HO3.out
  simpa using this

end Go.Proofs.YtmnhehicgheheaaDoor
