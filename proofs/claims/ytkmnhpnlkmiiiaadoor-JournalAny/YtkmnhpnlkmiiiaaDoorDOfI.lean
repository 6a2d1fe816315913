/- What disk.Of does with any image. -/
import Derived.Test.YtkmnhpnlkmiiiaaDoorDImg
namespace Go.Proofs.YtkmnhpnlkmiiiaaDoor
open Go.RowKit
set_option linter.unusedVariables false

/-- An image that is one of a disk. -/
def Gi (L : List (List Int)) : Prop := 1 ≤ L.length ∧ L.length ≤ 2048 ∧ ∀ l ∈ L, l.length = 128

def OfP (w : World) (L : List (List Int)) (e : Ending) (w' : World) : Prop :=
  (¬ Gi L ∧ e = .returned (.tuple #[.pointer none, .int .i64 1]) ∧ Below w.heap.size w w') ∨
  (Gi L ∧ ∃ (p : Nat) (d : Dk), e = .returned (.tuple #[.pointer (some ⟨p, 0, none⟩), .int .i64 0]) ∧ d.ok w' p ∧ d.n = L.length ∧ d.dur = L.flatten ∧ d.wr = d.dur ∧ d.eps = [] ∧ d.opn = false ∧ (∀ x ∈ d.foot p, w.heap.size ≤ x) ∧ Below w.heap.size w w')

theorem flat_len (L : List (List Int)) (h : ∀ l ∈ L, l.length = 128) : L.flatten.length = L.length * 128 := by
  induction L with
  | nil => rfl
  | cons a L ih => rw [List.flatten_cons, List.length_append, ih (fun l hl => h l (List.mem_cons_of_mem _ hl)), h a (List.mem_cons_self ..), List.length_cons]; omega

set_option maxHeartbeats 2000000 in
set_option maxRecDepth 20000 in
theorem dof_any (al : Option Addr) (n cl : Nat) (L : List (List Int)) (w : World) (hi : Img w al L) (hn : L.length = n) (hc : n ≤ cl) (hc2 : cl ≤ 9223372036854775807) : Calls Tryd.prog 4 #[.slice al n cl] w (OfP w L) := by
  obtain ⟨i5, hi5, hy0, hy1, hy2⟩ := info_parts Tryd.pinfo5
  by_cases hb : n < 1 ∨ 2048 < n
  · have hng : ¬ Gi L := fun h => by have h1 := h.1; have h2 := h.2.1; omega
    have HNG := hid hng
    clear hi hn hng
    by_cases h1 : n < 1
    · have h1' : (n : Int) < 1 := by omega
      clear hb h1
      go_enter Tryd.func4, Tryd.ntmps4
      go_wp2_with fail
      go_ret2
      exact .inl ⟨HNG.out, rfl, Below.refl _ _⟩
    · have h1' : ¬ (n : Int) < 1 := by omega
      have h2' : (2048 : Int) < (n : Int) := by omega
      clear hb h1
      go_enter Tryd.func4, Tryd.ntmps4
      go_wp2_with fail
      go_ret2
      exact .inl ⟨HNG.out, rfl, Below.refl _ _⟩
  · have hn1 : 1 ≤ n := by omega
    have hn2 : n ≤ 2048 := by omega
    have h1' : ¬ (n : Int) < 1 := by omega
    have h2' : ¬ (2048 : Int) < (n : Int) := by omega
    have HI := hid hi
    have HN := hid hn
    have hmul : wrap64 ((n : Int) * 128) = ((n * 128 : Nat) : Int) := by unfold wrap64; omega
    obtain ⟨N8, gN8⟩ : ∃ N8, N8 = n * 128 := ⟨_, rfl⟩
    have hN8 : N8 ≤ 262144 := by omega
    rw [← gN8] at hmul
    have HMUL := hid hmul
    have GN8 := hid gN8
    have hmx : N8 ≤ maxLen := by unfold maxLen; omega
    have hby : i5.bytes * N8 ≤ 281474976710656 := by rw [hy2]; omega
    clear hi hn hb hmul gN8
    go_enter Tryd.func4, Tryd.ntmps4
    go_wp2_with (at_make; go_must (refine wpList_make_lc _ rfl _ _ 34 rfl 5 i5 (.int .u8 0) 1 Tryd.underlying34 hi5 hy0 hy1 _ _ _ _ 0 N8 rfl rfl rfl (by first | rfl | (have := GN8.out; omega)) (Nat.zero_le _) hby hmx ?_))
    have hw0 : (w.alloc (.cells (madeCells #[Value.int .u8 0] N8) 5)).ownsRow 0 5 1 (.slice (some ⟨w.heap.size, 0, none⟩) 0 N8) 0 [] := by
      refine ⟨rfl, .inr ⟨w.heap.size, N8, _, rfl, Nat.zero_le _, heap_alloc_new w _, Nat.zero_le _, hmx, by simp [size_madeCells], by simp⟩⟩
    have HW0 := hid hw0
    have HB0 : Hid (Below w.heap.size w (w.alloc (.cells (madeCells #[Value.int .u8 0] N8) 5))) := hid ((Below.refl _ _).alloc (Nat.le_refl _) _)
    clear hw0
    go_wp2_with fail
    go_loopw [4, 21] (fun v k wr => ∃ i : Nat, k = .int .i64 i ∧ i ≤ n ∧ Hid (wr.ownsRow 0 5 1 v (i * 128) ((L.take i).flatten.map (Value.int .u8))) ∧ Hid (∀ x, v.ownBlock = some x → w.heap.size ≤ x) ∧ Hid (∀ l ∈ L.take i, l.length = 128) ∧ Hid (v ≠ .slice none 0 0) ∧ Hid (Below w.heap.size w wr)) (fun _ k _ => n - (intOf k).toNat)
    case atStart => exact ⟨0, rfl, Nat.zero_le _, hid (by simpa using HW0.out), hid (fun x hx => by simp [Value.ownBlock] at hx; omega), hid (fun l hl => by simp at hl), hid (by simp), HB0⟩
    case round =>
      obtain ⟨i, rfl, hi, HO, HV, HA, HNN, HB⟩ := hrel
      obtain ⟨v, gv⟩ : ∃ v, v = u4 := ⟨_, rfl⟩
      rw [← gv] at HO HV HNN ⊢
      clear gv
      obtain ⟨av, cv, ev, hv1, hv2⟩ := own_shape HO.out
      subst ev
      obtain ⟨g, rfl⟩ : ∃ g, av = some ⟨g, 0, none⟩ := by
        rcases HO.out.2 with ⟨h, _⟩ | ⟨g, c, cur, h, _⟩
        · exact absurd h HNN.out
        · injection h with h1 h2 h3; exact ⟨g, h1⟩
      obtain ⟨m8, gm8⟩ : ∃ m8, m8 = i * 128 := ⟨_, rfl⟩
      rw [← gm8] at HO HV HNN hv1 ⊢
      have hm8 : m8 ≤ 262144 := by omega
      have GM8 := hid gm8
      clear gm8
      by_cases hlt : i < n
      · have hil : i < L.length := by rw [HN.out]; exact hlt
        obtain ⟨b, o, e, hbl, hcc⟩ := HI.out (by omega)
        subst e
        obtain ⟨u, hu, a, c, e0, hs, _, hca, hcb, hnn, _⟩ := hcc i hil
        subst e0
        have hu' := (HB.out.cell (p := ⟨b, o + i, none⟩) hbl).trans hu
        have htk : L.take (i + 1) = L.take i ++ [L[i]] := by rw [List.take_add_one, List.getElem?_eq_getElem hil]; rfl
        by_cases h128 : L[i].length = 128
        · obtain ⟨ad, rfl⟩ : ∃ ad, a = some ad := by
            cases a with
            | none => have := (hnn rfl).1; omega
            | some ad => exact ⟨ad, rfl⟩
          rw [h128] at hu' hs
          obtain ⟨X, gX⟩ : ∃ X, X = L[i] := ⟨_, rfl⟩
          rw [← gX] at hs htk h128
          have HS := hid (hs.below HB.out)
          have HTK := hid htk
          have H128 := hid h128
          clear hcc hu hs htk gX h128 hnn hca
          go_wp2_with (at_builtin; go_must (refine wpList_append_where rfl _ _ 34 rfl 5 i5 _ 1 1 Tryd.underlying34 hi5 hy0 hy1 hy2 rfl (by decide) (.slice (some ⟨g, 0, none⟩) m8 cv) m8 _ rfl HO.out ad 128 c (X.map (Value.int .u8)) rfl (by simp [H128.out]) (src_cells HS.out) (u8_one _) (by unfold maxLen; omega) (by omega) ?_))
          intro v' w3 hO3 hU3 hN3 hW3
          have hb3 : Below w.heap.size w w3 := HB.out.trans (hU3.below HB.out.size (fun x hx => HV.out x hx))
          have HO3 : Hid (w3.ownsRow 0 5 1 v' ((i + 1) * 128) ((L.take (i + 1)).flatten.map (Value.int .u8))) := hid (by
            have h1 := hO3.out
            rw [HTK.out, List.flatten_append, List.map_append, show (i + 1) * 128 = m8 + 128 by have := GM8.out; omega]
            simpa using h1)
          have HV3 : Hid (∀ x, v'.ownBlock = some x → w.heap.size ≤ x) := hid (fun x hx => by
            rcases hW3.out with h' | h'
            · exact HV.out x (h' ▸ hx)
            · exact Nat.le_trans HB.out.size (h' x hx))
          have HA3 : Hid (∀ l ∈ L.take (i + 1), l.length = 128) := hid (fun l hl => by
            rw [HTK.out] at hl
            rcases List.mem_append.1 hl with h | h
            · exact HA.out l h
            · simp at h; rw [h]; exact H128.out)
          have HN3 : Hid (v' ≠ .slice none 0 0) := hid (fun h => hN3.out h)
          have HB3 := hid hb3
          clear hb3 hU3
          go_wp2_with fail
          go_roundw
          case rel => exact ⟨i + 1, by go_num, by omega, HO3, HV3, HA3, HN3, HB3⟩
          case measure => simp [intOf]; omega
        · have hng : ¬ Gi L := fun h => h128 (h.2.2 _ (List.getElem_mem hil))
          have HNG := hid hng
          obtain ⟨lX, glX⟩ : ∃ lX, lX = L[i].length := ⟨_, rfl⟩
          rw [← glX] at hu' h128
          have h128' : ¬ (lX : Int) = 128 := by omega
          clear hcc hu hs htk glX hng hnn hca
          go_wp2_with fail
          go_ret2
          exact .inl ⟨HNG.out, rfl, HB.out⟩
      · obtain rfl : i = n := by omega
        have htk : L.take i = L := List.take_of_length_le (by rw [HN.out]; exact Nat.le_refl _)
        have ho := HO.out
        have ha := HA.out
        rw [htk] at ho ha
        have ko := hid (of_any ⟨g, 0, none⟩ m8 cv L.flatten wr (Src.own ho) (by omega))
        have hgi : Gi L := ⟨by rw [HN.out]; exact hn1, by rw [HN.out]; exact hn2, ha⟩
        have HGI := hid hgi
        have HO2 := hid ho
        clear ho ha htk hgi
        go_wp2_with fail
        refine ko.out.mono ?_
        rintro e w4 ⟨p, g4, c4, rfl, hp, ho4, hpl, hg4, hb4⟩
        have l1 := HV.out g rfl
        have l2 := (HO2.out.lt g rfl).2
        have l4 := ho4.lt g4 rfl
        have hfin : OfP w L (.returned (.tuple #[.pointer (some ⟨p, 0, none⟩), .int .i64 0])) w4 := by
          have hgi := HGI.out
          have hm : m8 = L.length * 128 := by rw [GM8.out, HN.out]
          refine .inr ⟨hgi, p, ⟨L.length, g, cv, g4, c4, L.flatten, L.flatten, .slice none 0 0, [], false⟩, rfl, ⟨by rw [← hm]; exact hp, by rw [← hm]; exact own_below HO2.out hb4, by rw [← hm]; exact own_base ho4 (Nat.zero_le _), World.ownsRow_nil _ _ _ _, fun e he => by simp at he, ?_, hgi.1, hgi.2.1, fun h => by simp at h⟩, rfl, rfl, rfl, rfl, rfl, ?_, HB.out.trans (hb4.mono HB.out.size)⟩
          · simp [Dk.foot, vb, Value.ownBlock]
            omega
          · intro x hx
            have := HB.out.size
            simp [Dk.foot, vb, Value.ownBlock] at hx
            omega
        have HFIN := hid hfin
        clear hfin hp ho4 hb4
        go_wp2_with fail
        go_ret2
        exact HFIN.out

end Go.Proofs.YtkmnhpnlkmiiiaaDoor
