/- Images as they came in: what dredgerplain.Image and disk.Of do with them. -/
import Derived.Test.YtkmnhpnlkmiiiaaGreatDoorQPic2
import Derived.Test.YtkmnhpnlkmiiiaaGreatDoorDNewK
namespace Go.Proofs.YtkmnhpnlkmiiiaaGreatDoor
open Go.RowKit
set_option linter.unusedVariables false

/-- Bytes of any number, none of them in M. -/
def Bg (w : World) (M : List Nat) (u : Value) (bs : List Int) : Prop := ∃ a c, u = .slice a bs.length c ∧ Src w a bs.length bs ∧ (0 < bs.length → ∀ b o, a = some ⟨b, o, none⟩ → b ∉ M) ∧ bs.length ≤ c ∧ c ≤ 9223372036854775807 ∧ (a = none → bs.length = 0 ∧ c = 0) ∧ bs.length ≤ 140737488355328

/-- An image: a list of such. -/
def Img (w : World) (al : Option Addr) (L : List (List Int)) : Prop := 0 < L.length → ∃ b o, al = some ⟨b, o, none⟩ ∧ b < w.heap.size ∧ ∀ j, ∀ h : j < L.length, ∃ u, w.cell? ⟨b, o + j, none⟩ = some u ∧ Bg w [] u L[j]

theorem Bg.below {w w' : World} {M : List Nat} {u : Value} {bs : List Int} (h : Bg w M u bs) (hb : Below w.heap.size w w') : Bg w' M u bs := by
  obtain ⟨a, c, e, h1, h2⟩ := h
  exact ⟨a, c, e, h1.below hb, h2⟩

theorem Img.below {w w' : World} {al : Option Addr} {L : List (List Int)} (h : Img w al L) (hb : Below w.heap.size w w') : Img w' al L := fun h0 => by
  obtain ⟨b, o, e, hl, hc⟩ := h h0
  refine ⟨b, o, e, Nat.lt_of_lt_of_le hl hb.size, fun j hj => ?_⟩
  obtain ⟨u, h1, h2⟩ := hc j hj
  exact ⟨u, (hb.cell (p := ⟨b, o + j, none⟩) hl).trans h1, h2.below hb⟩

theorem Bg.upd {w w' : World} {M M' : List Nat} {u : Value} {bs : List Int} (h : Bg w M u bs) (hu : Upd (· ∈ M) w w') (hg : Grew' w M M') : Bg w' M' u bs := by
  obtain ⟨a, c, e, hs, hm, rest⟩ := h
  refine ⟨a, c, e, ?_, fun h0 b o e2 hx => ?_, rest⟩
  · refine ⟨hs.1, fun h0 => ?_⟩
    obtain ⟨b, o, e2, hl, hc⟩ := hs.2 h0
    exact ⟨b, o, e2, Nat.lt_of_lt_of_le hl hu.size, fun j hj => (World.cell?_of_block (a := ⟨b, o + j, none⟩) (hu.block b hl (hm h0 b o e2))).trans (hc j hj)⟩
  · rcases hg b hx with h1 | h1
    · exact hm h0 b o e2 h1
    · obtain ⟨b2, o2, e3, hl, _⟩ := hs.2 h0
      rw [e2] at e3
      injection e3 with e3
      injection e3 with e4 e5
      omega

theorem Bg.weaken {w : World} {M M' : List Nat} {u : Value} {bs : List Int} (h : Bg w M u bs) (hs : ∀ x ∈ M', x ∈ M) : Bg w M' u bs := by
  obtain ⟨a, c, e, h1, h2, h3⟩ := h
  exact ⟨a, c, e, h1, fun h0 b o e hx => h2 h0 b o e (hs _ hx), h3⟩

/-- A row of such, of the call's own. -/
def Ents (w : World) (v : Value) (L : List (List Int)) : Prop := ∃ us, w.ownsRow 0 29 1 v L.length us ∧ ∀ j, ∀ h : j < L.length, ∃ u, us[j]? = some u ∧ Bg w (vb v) u L[j]

theorem Ents.img {w : World} {v : Value} {L : List (List Int)} (h : Ents w v L) : ∃ a c, v = .slice a L.length c ∧ L.length ≤ c ∧ c ≤ 9223372036854775807 ∧ Img w a L := by
  obtain ⟨us, ho, hj⟩ := h
  obtain ⟨a, c, rfl, h1, h2⟩ := own_shape ho
  refine ⟨a, c, rfl, h1, h2, fun h0 => ?_⟩
  obtain ⟨g, rfl⟩ : ∃ g, a = some ⟨g, 0, none⟩ := by
    rcases ho.2 with ⟨_, h⟩ | ⟨g, c, cur, h, _⟩
    · omega
    · injection h with h1 h2 h3; exact ⟨g, h1⟩
  refine ⟨g, 0, rfl, (ho.lt g rfl).2, fun j hjl => ?_⟩
  obtain ⟨u, h3, h4⟩ := hj j hjl
  exact ⟨u, by rw [Nat.zero_add, ho.cellAt _ (by omega)]; exact h3, h4.weaken (fun x hx => by simp at hx)⟩

theorem clone_bg {w : World} {u : Value} {bs : List Int} (h : Bg w [] u bs) : Calls Tryz.prog 30 #[u] w fun e w' => ∃ v, e = .returned v ∧ Bg w' [] v bs ∧ (∀ b o c n, v = .slice (some ⟨b, o, none⟩) n c → w.heap.size ≤ b) ∧ Below w.heap.size w w' := by
  obtain ⟨a, c, rfl, hs, _, hc1, hc2, hn, hl⟩ := h
  cases a with
  | none =>
    obtain ⟨h0, rfl⟩ := hn rfl
    refine (clone_nil _ _ w).mono ?_
    rintro e w' ⟨rfl, rfl⟩
    refine ⟨_, rfl, ⟨none, 0, by rw [h0], hs, fun h => by omega, by omega, by omega, fun _ => ⟨h0, rfl⟩, hl⟩, fun b o c n e => (by cases e), Below.refl _ _⟩
  | some ad =>
    refine (clone_any ad _ c bs w hs hl).mono ?_
    rintro e w' ⟨g, c', rfl, ho, hb⟩
    have hlt := ho.lt g rfl
    refine ⟨_, rfl, ⟨_, c', rfl, Src.own ho, fun _ b o _ hx => by simp at hx, (own_cap ho).1, (own_cap ho).2, fun h => (by cases h), hl⟩, fun b o c n e => ?_, hb⟩
    injection e with e1
    injection e1 with e1
    injection e1 with e2 e3
    omega

set_option maxHeartbeats 2000000 in
set_option maxRecDepth 20000 in
theorem pimg (al : Option Addr) (n cl : Nat) (L : List (List Int)) (w : World) (hi : Img w al L) (hn : L.length = n) (hc : n ≤ cl) (hc2 : cl ≤ 9223372036854775807) (hsz : n * 24 ≤ 140737488351232) :
    Calls Tryz.prog 22 #[.slice al n cl] w fun e w' => ∃ v', e = .returned v' ∧ Ents w' v' L ∧ (∀ x, v'.ownBlock = some x → w.heap.size ≤ x) ∧ Below w.heap.size w w' := by
  obtain ⟨i0, hi0, hz0, hz1, hz2⟩ := info_parts Tryz.infoTB
  have HI := hid hi
  have HN := hid hn
  clear hi hn
  go_enter Tryz.func22, Tryz.ntmps22
  go_wp2_with fail
  go_loopw [3, 8] (fun vo k wr => ∃ i : Nat, k = .int .i64 i ∧ i ≤ n ∧ Hid (Ents wr vo (L.take i)) ∧ Hid (∀ x, vo.ownBlock = some x → w.heap.size ≤ x) ∧ Below w.heap.size w wr) (fun _ k _ => n - (intOf k).toNat)
  case atStart => exact ⟨0, rfl, Nat.zero_le _, ⟨[], World.ownsRow_nil _ _ _ _, fun j hj => absurd hj (by simp)⟩, (fun x hx => by simp [Value.ownBlock] at hx), Below.refl _ _⟩
  case round =>
    obtain ⟨i, rfl, hi, HE, HV, hbr⟩ := hrel
    obtain ⟨vo, hvo⟩ : ∃ vo, vo = u3 := ⟨_, rfl⟩
    rw [← hvo] at HE HV ⊢
    clear hvo
    by_cases hlt : i < n
    · have hil : i < L.length := by rw [HN.out]; exact hlt
      obtain ⟨b, o, e, hbl, hcc⟩ := HI.out (by omega)
      subst e
      obtain ⟨u, hu, hbg⟩ := hcc i hil
      have hu' := (hbr.cell (p := ⟨b, o + i, none⟩) hbl).trans hu
      have kc := hid (clone_bg (hbg.below hbr))
      obtain ⟨a0, c0, e0, _⟩ := hbg
      subst e0
      have htk : L.take (i + 1) = L.take i ++ [L[i]] := by rw [List.take_add_one, List.getElem?_eq_getElem hil]; rfl
      have hlen : (L.take i).length = i := by rw [List.length_take]; omega
      obtain ⟨B, gB⟩ : ∃ B, B = L[i] := ⟨_, rfl⟩
      rw [← gB] at kc hu' htk
      have HTK := hid htk
      have HLN := hid hlen
      obtain ⟨lB, glB⟩ : ∃ lB, lB = B.length := ⟨_, rfl⟩
      rw [← glB] at hu' kc
      have GLB := hid glB
      clear hcc hu htk hlen gB glB
      go_wp2_with fail
      refine kc.out.mono ?_
      rintro r w2 ⟨v2, rfl, hbg2, hnew2, hb2⟩
      have hv2 : ∃ a2 c2, v2 = .slice a2 B.length c2 := by obtain ⟨a2, c2, e2, _⟩ := hbg2; exact ⟨a2, c2, e2⟩
      obtain ⟨a2, c2, rfl⟩ := hv2
      rw [← GLB.out] at hbg2 hnew2 ⊢
      obtain ⟨us, huo, hue⟩ := HE.out
      have HBG := hid hbg2
      have HNW := hid hnew2
      have HB2 := hid hb2
      have hsz2 := hb2.size
      have hsz1 := hbr.size
      have huo2 := own_below huo hb2
      rw [HLN.out] at huo2
      have HUO := hid huo2
      have HUE := hid hue
      clear hbg2 hnew2 hb2 huo huo2 hue hu'
      go_wp2_with (at_builtin; go_must (refine wpList_append_where rfl _ _ 22 rfl 29 i0 _ 1 24 Tryz.underlying22 hi0 hz0 hz1 hz2 rfl (by decide) vo i us rfl (HUO.out.alloc _) ⟨_, 0, none⟩ 1 1 [.slice a2 lB c2] rfl rfl (by intro j u hj; rw [Addr.add_lit]; refine heap_cells (heap_alloc_new _ _) _ u ?_; simpa using hj) (by simp [Value.oneCell']) (by unfold maxLen; omega) (by omega) ?_))
      intro v' w3 hO3 hU3 hN3 hW3
      have hvl : ∀ x, vo.ownBlock = some x → x < wr.heap.size := fun x hx => ((HE.out).choose_spec.1.lt x hx).2
      have hbw3 : Below w.heap.size w w3 := by
        refine (hbr.trans (HB2.out.mono hsz1)).trans ((((Below.refl w2.heap.size w2).alloc (Nat.le_refl _) _).mono (by omega)).trans (hU3.below (by simp; omega) (fun x hx => HV.out x hx)))
      have hgr : Grew' (w2.alloc (.cells #[.slice a2 lB c2] 29)) (vb vo) (vb v') := by
        intro x hx
        have hx' : v'.ownBlock = some x := by simpa [vb] using hx
        rcases hW3.out with h' | h'
        · exact .inl (by simp [vb, ← h', hx'])
        · exact .inr (by have := h' x hx'; simpa using this)
      have hU3' : Upd (· ∈ vb vo) (w2.alloc (.cells #[.slice a2 lB c2] 29)) w3 := hU3.mono (fun x _ hx => by simp [vb, hx])
      have hent' : Ents w3 v' (L.take (i + 1)) := by
        have hl1 : (L.take (i + 1)).length = i + 1 := by rw [HTK.out]; simp [HLN.out]
        refine ⟨us ++ [.slice a2 lB c2], by rw [hl1]; exact hO3.out, fun j hj => ?_⟩
        have hul : us.length = i := by have := HUO.out.1; omega
        rcases (show j < i ∨ j = i by omega) with hj' | rfl
        · obtain ⟨u, h1, h2⟩ := HUE.out j (by rw [HLN.out]; exact hj')
          have e1 : (L.take (j + 1 + (i - j)))[j]'(by rw [show j + 1 + (i - j) = i + 1 by omega]; exact hj) = L[j] := List.getElem_take
          have e2 : (L.take (i + 1))[j] = (L.take i)[j]'(by rw [HLN.out]; exact hj') := by rw [List.getElem_take, List.getElem_take]
          rw [e2]
          exact ⟨u, by rw [List.getElem?_append_left (by omega)]; exact h1, ((h2.upd (Upd.of_below HB2.out) (grew_refl _ _)).upd (Upd.alloc _ w2 _) (grew_refl _ _)).upd hU3' hgr⟩
        · have e2 : (L.take (j + 1))[j] = B := by
            have : (L.take (j + 1))[j]? = some B := by rw [HTK.out, List.getElem?_append_right (by rw [HLN.out]; exact Nat.le_refl _), HLN.out]; simp
            rw [List.getElem?_eq_getElem hj] at this
            exact Option.some.inj this
          rw [e2]
          refine ⟨.slice a2 lB c2, by rw [← hul]; simp, ?_⟩
          have hb0 : Bg (w2.alloc (.cells #[.slice a2 lB c2] 29)) (vb vo) (.slice a2 lB c2) B := by
            obtain ⟨a3, c3, e3, h1, _, h2⟩ := HBG.out.below ((Below.refl _ w2).alloc (Nat.le_refl _) (.cells #[.slice a2 lB c2] 29))
            injection e3 with e4 e5 e6
            subst e4
            subst e6
            refine ⟨a2, c2, by rw [GLB.out], h1, fun h0 b' o' e' hx => ?_, h2⟩
            have h5 := HNW.out b' o' c2 lB (by rw [e'])
            have h6 := hvl b' (by simpa [vb] using hx)
            omega
          exact hb0.upd hU3' hgr
      have hv' : ∀ x, v'.ownBlock = some x → w.heap.size ≤ x := by
        intro x hx
        rcases hW3.out with h' | h'
        · exact HV.out x (h' ▸ hx)
        · have h4 : w2.heap.size ≤ x := Nat.le_trans (by simp) (h' x hx)
          omega
      have HE3 := hid hent'
      have HV3 := hid hv'
      clear hent' hv' hU3 hU3' hgr
      go_wp2_with fail
      go_roundw
      case rel => exact ⟨i + 1, by go_num, by omega, HE3.out, HV3.out, hbw3⟩
      case measure => simp [intOf]; omega
    · obtain rfl : i = n := by omega
      go_wp2_with fail
      go_ret
      refine ⟨vo, rfl, ?_, HV.out, hbr⟩
      have := HE.out
      rwa [List.take_of_length_le (by rw [HN.out]; exact Nat.le_refl _)] at this

end Go.Proofs.YtkmnhpnlkmiiiaaGreatDoor
